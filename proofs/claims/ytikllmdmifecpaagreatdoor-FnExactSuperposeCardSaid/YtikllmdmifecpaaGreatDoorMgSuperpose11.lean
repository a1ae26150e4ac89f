/- Texts merged, part 11. -/
import Derived.Deep.RegionHeldLaw
import Derived.Test.YtikllmdmifecpaaGreatDoorMgSuperpose10
section
/- Chapter 6, the program: which ways superpose. -/
namespace Go.Proofs.YtikllmdmifecpaaGreatDoor
open Go.RowKit

theorem supIn_apart (c d : List Lt) (w : Wy) : supIn c (apartC c d) w = supIn c d w := by
  unfold supIn apartC
  have hl : litOk (shiftC (byC c) d) w.2.2.1 w.2.2.2.1 = litOk d w.2.2.1 w.2.2.2.1 := by unfold litOk; rw [shiftC_len]
  rw [hl]
  cases h : litOk d w.2.2.1 w.2.2.2.1 with
  | false => simp
  | true =>
    have hk : w.2.2.1.toNat < d.length := by have := litOk_iff.1 h; omega
    have hu : supU (shiftC (byC c) d) w = shifted (supU d w) (byC c) := getD_shift _ hk _
    rw [hu, shifted_len]
    congr 2
    exact decide_eq_decide.2 (shifted_sym _ _ _)

set_option maxRecDepth 100000 in
set_option maxHeartbeats 1000000 in
theorem canSuperpose_c (l1 m1 l2 m2 : Nat) (u x : Value) (c d : List Lt) (wy : Wy) (q : Bool) (w : World) (hq : supIn c d wy = q) (h8 : c.length ≤ 1048576) (h8d : shortC d) (hu : SlC l1 m1 w u c) (hx : SlC l2 m2 w x d) :
    Calls Tryz.prog 57 #[u, x, .agg #[.int .i64 wy.1, .int .i64 wy.2.1, .int .i64 wy.2.2.1, .int .i64 wy.2.2.2.1, .int .i64 wy.2.2.2.2]] w (RetV w (.bool q)) := by
  obtain ⟨wi, ws, wj, wo, wa⟩ := wy
  dsimp only
  unfold supIn at hq
  dsimp only at hq
  obtain ⟨ad, cap, rfl⟩ := hu.form
  obtain ⟨ad2, cap2, rfl⟩ := hx.form
  have B1 : Bel w (w.alloc (.cells #[.int .i64 wi, .int .i64 ws, .int .i64 wj, .int .i64 wo, .int .i64 wa] 36)) := Bel.alloc0 _ _
  generalize h1 : (litOk c wi ws && (c.getD wi.toNat lt0).1) = b1 at hq
  have H1 := Lib.hid (hasEquation_q l1 m1 _ c wi ws b1 _ h1 h8 (hu.below B1))
  generalize h2 : litOk d wj wo = b2 at hq
  have H2 := Lib.hid (hasSide_q l2 m2 _ d wj wo b2 _ h2 h8d.1 (hx.below B1))
  have HQ := Lib.hid hq
  clear hq
  go_enter Tryz.func57, Tryz.ntmps57
  go_wp2_with fail
  refine H1.out.mono ?_; rintro e w1 ⟨rfl, rfl⟩
  cases b1 with
  | false =>
    have hq0 : false = q := HQ.out
    subst hq0
    go_wp2_with fail
    go_ret
    exact ⟨rfl, B1⟩
  | true =>
    clear H1
    go_wp2_with fail
    refine H2.out.mono ?_; rintro e w1 ⟨rfl, rfl⟩
    cases b2 with
    | false =>
      have hq0 : false = q := HQ.out
      subst hq0
      go_wp2_with fail
      go_ret
      exact ⟨rfl, B1⟩
    | true =>
      clear H2
      obtain ⟨⟨j0, j1⟩, hs2⟩ := litOk_iff.1 h2
      obtain ⟨k2, rfl⟩ : ∃ k : Nat, wj = (k : Int) := ⟨wj.toNat, by omega⟩
      have hk2 : k2 < d.length := by omega
      obtain ⟨bd, offd, q1, q2, rfl, hbsd, d1, d2, d3, r1, r2⟩ := hx.at (Bel.rfl' w) k2 hk2
      obtain ⟨y1, y2, hy, t3, t4⟩ := sides_x hs2 r1 r2
      have eU : supU d (wi, ws, (k2 : Int), wo, wa) = sideL (d.getD k2 lt0) wo := by unfold supU; dsimp only; rw [Int.toNat_natCast]
      rw [eU] at HQ
      have HF := Lib.hid (fun (w' : World) (hb : Bel (w.alloc (.cells #[.int .i64 wi, .int .i64 ws, .int .i64 k2, .int .i64 wo, .int .i64 wa] 36)) w') => (⟨boxc hb 2 _ rfl, boxc hb 3 _ rfl, boxc hb 4 _ rfl, hb.at (by simp; omega) (B1.at hbsd d1), hb.at (by simp; omega) (B1.at hbsd d2), hb.at (by simp; omega) (B1.at hbsd d3)⟩ : (w'.cell? ⟨w.heap.size, 2, none⟩ = some (.int .i64 k2) ∧ w'.cell? ⟨w.heap.size, 3, none⟩ = some (.int .i64 wo) ∧ w'.cell? ⟨w.heap.size, 4, none⟩ = some (.int .i64 wa) ∧ w'.cell? ⟨bd, offd + k2 * 3, none⟩ = some (.bool (d.getD k2 lt0).1) ∧ w'.cell? ⟨bd, offd + k2 * 3 + 1, none⟩ = some q1 ∧ w'.cell? ⟨bd, offd + k2 * 3 + 2, none⟩ = some q2)))
      have HS2 := Lib.hid (fun (w' : World) => turned_c (d.getD k2 lt0).1 q1 q2 y1 y2 wo w' hy)
      obtain ⟨hm1, hm2⟩ := h8d.2 k2 hk2
      have hUl : (sideL (d.getD k2 lt0) wo).length ≤ 1048576 := by unfold sideL; split <;> assumption
      generalize hU : sideL (d.getD k2 lt0) wo = U at *
      clear hU eU hy d1 d2 d3 t4 h1 h2 hm1 hm2
      obtain ⟨a3, e3, f3⟩ := r1.form
      obtain ⟨a4, e4, f4⟩ := r2.form
      obtain ⟨yb1, ym1, yd1⟩ := y1
      obtain ⟨yb2, ym2, yd2⟩ := y2
      simp only [encS] at HS2 t3
      have eym := t3.slen
      subst f3 f4 eym
      generalize (d.getD k2 lt0).1 = pd at *
      generalize (d.getD k2 lt0).2.1.length = N3 at *
      generalize (d.getD k2 lt0).2.2.length = N4 at *
      have hfd1 := lit_field1
      have BD0 := Bel.drew0 (w.alloc (.cells #[.int .i64 wi, .int .i64 ws, .int .i64 k2, .int .i64 wo, .int .i64 wa] 36))
      obtain ⟨g3, g4, g5, g9, g10, g11⟩ := HF.out _ BD0
      go_wp2_with fail
      go_region_held3 (fun w' => w'.cell? ⟨w.heap.size, 2, none⟩ = some (.int .i64 k2) ∧ w'.cell? ⟨w.heap.size, 3, none⟩ = some (.int .i64 wo) ∧ w'.cell? ⟨bd, offd + k2 * 3, none⟩ = some (.bool pd) ∧ w'.cell? ⟨bd, offd + k2 * 3 + 1, none⟩ = some (.slice a3 N3 e3) ∧ w'.cell? ⟨bd, offd + k2 * 3 + 2, none⟩ = some (.slice a4 N4 e4))
        (first | exact ⟨g3, g4, g9, g10, g11⟩ | exact (fun h : _ ∧ _ ∧ _ ∧ _ ∧ _ ∧ _ => ⟨h.1, h.2.1, h.2.2.2⟩) (HF.out _ (BD0.step hb1)) | fail)
        (first | (go_at_call 106; refine (HS2.out _).mono ?_; rintro e w1 ⟨rfl, hb1⟩) | fail)
      clear g3 g4 g5 g9 g10 g11 HS2
      have BW1 := B1.step (BD0.step hb1)
      have n5 := (HF.out _ (BD0.step hb1)).2.2.1
      clear HF
      by_cases h0 : wa ≥ 0
      · obtain ⟨ka, rfl⟩ : ∃ k : Nat, wa = (k : Int) := ⟨wa.toNat, by omega⟩
        by_cases h1 : (ka : Int) < U.length
        · have hka : ka < U.length := by omega
          obtain ⟨ad3, cap3, e5, hc5, hm5, hr5⟩ := t3
          simp only [Value.slice.injEq] at e5
          obtain ⟨rfl, -, rfl⟩ := e5
          obtain ⟨bu, ou, rfl, hbu, hcu⟩ := rd hr5 BW1 ka hka
          have hq0 : decide (0 ≤ U.getD ka 0) = q := by
            have := HQ.out
            unfold inB at this
            rw [decide_eq_true (show (0:Int) ≤ ka by omega), decide_eq_true (show (ka : Int) ≤ (U.length : Int) - 1 by omega), Int.toNat_natCast] at this
            simpa using this
          clear HQ hr5
          generalize U.getD ka 0 = nn at *
          by_cases hn : nn ≥ 0
          · have hq1 : true = q := by rw [← hq0]; simp; omega
            subst hq1
            clear hq0
            go_wp2_with fail
            go_ret
            exact ⟨rfl, BW1⟩
          · have hq1 : false = q := by rw [← hq0]; simp; omega
            subst hq1
            clear hq0
            go_wp2_with fail
            go_ret
            exact ⟨rfl, BW1⟩
        · have hq1 : false = q := by rw [← HQ.out]; unfold inB; rw [decide_eq_false (show ¬ (ka : Int) ≤ (U.length : Int) - 1 by omega)]; simp
          subst hq1
          clear HQ t3
          go_wp2_with fail
          go_ret
          exact ⟨rfl, BW1⟩
      · have hq1 : false = q := by rw [← HQ.out]; unfold inB; rw [decide_eq_false (show ¬ (0 : Int) ≤ wa by omega)]; simp
        subst hq1
        clear HQ t3
        go_wp2_with fail
        go_ret
        exact ⟨rfl, BW1⟩
end Go.Proofs.YtikllmdmifecpaaGreatDoor
end
section
/- superposed's first region, whatever the order: two calls and two new boxes. -/
namespace Go.Proofs.YtikllmdmifecpaaGreatDoor.Ru
open Go.RowKit

/-- A literal's box, as it is laid. -/
def Zb (w : World) (g : Nat) : Prop := (w.cell? ⟨g, 0, none⟩ = some (.bool false) ∧ w.cell? ⟨g, 1, none⟩ = some (.slice none 0 0) ∧ w.cell? ⟨g, 2, none⟩ = some (.slice none 0 0)) ∧ ∀ i, w.frozen? ⟨g, i, none⟩ = false
theorem Zb.lt {w : World} {g : Nat} (h : Zb w g) : g < w.heap.size := World.block_lt_of_cell? w ⟨g, 0, none⟩ h.1.1
theorem Zb.bel {w w' : World} {g : Nat} (h : Zb w g) (hb : Bel w w') : Zb w' g :=
  ⟨⟨hb.at h.lt h.1.1, hb.at h.lt h.1.2.1, hb.at h.lt h.1.2.2⟩, fun i => (hb.frozen (p := ⟨g, i, none⟩) h.lt).trans (h.2 i)⟩
theorem Zb.new (w : World) (t : TypeId) : Zb (w.alloc (.cells #[.bool false, .slice none 0 0, .slice none 0 0] t)) w.heap.size := ⟨⟨by simp [go_sem], by simp [go_sem], by simp [go_sem]⟩, fun i => by simp [go_sem]⟩
def pt (g : Nat) : Value := .pointer (some ⟨g, 0, none⟩)
/-- A literal's box that holds a literal. -/
def Lb (w : World) (g : Nat) (p s1 s2 : Value) : Prop := (w.cell? ⟨g, 0, none⟩ = some p ∧ w.cell? ⟨g, 1, none⟩ = some s1 ∧ w.cell? ⟨g, 2, none⟩ = some s2) ∧ ∀ i, w.frozen? ⟨g, i, none⟩ = false
theorem Lb.lt {w : World} {g : Nat} {p s1 s2 : Value} (h : Lb w g p s1 s2) : g < w.heap.size := World.block_lt_of_cell? w ⟨g, 0, none⟩ h.1.1
theorem Lb.bel {w w' : World} {g : Nat} {p s1 s2 : Value} (h : Lb w g p s1 s2) (hb : Bel w w') : Lb w' g p s1 s2 :=
  ⟨⟨hb.at h.lt h.1.1, hb.at h.lt h.1.2.1, hb.at h.lt h.1.2.2⟩, fun i => (hb.frozen (p := ⟨g, i, none⟩) h.lt).trans (h.2 i)⟩
theorem Zb.lb {w : World} {g : Nat} (h : Zb w g) : Lb w g (.bool false) (.slice none 0 0) (.slice none 0 0) := h
theorem Lb.put {w : World} {g : Nat} {p s1 s2 : Value} (h : Lb w g p s1 s2) (p' t1 t2 : Value) : Lb (((w.setCell ⟨g, 0, none⟩ p').setCell ⟨g, 1, none⟩ t1).setCell ⟨g, 2, none⟩ t2) g p' t1 t2 := by
  obtain ⟨⟨q0, q1, q2⟩, q3⟩ := h
  exact ⟨⟨by simp [go_sem, q0, q1, q2], by simp [go_sem, q0, q1, q2], by simp [go_sem, q0, q1, q2]⟩, fun i => by simp [go_sem, q3]⟩
theorem Lb.far {w : World} {g k : Nat} {p s1 s2 : Value} (h : Lb w g p s1 s2) (hk : g ≠ k) (j : Nat) (u : Value) : Lb (w.setCell ⟨k, j, none⟩ u) g p s1 s2 := by
  obtain ⟨⟨q0, q1, q2⟩, q3⟩ := h
  have hk' := Ne.symm hk
  exact ⟨⟨by simp [go_sem, q0, hk, hk'], by simp [go_sem, q1, hk, hk'], by simp [go_sem, q2, hk, hk']⟩, fun i => by simp [go_sem, q3]⟩

theorem wanted_plain {o : Oper} {ops : Array Oper} {a : Act} (hgd : o.guard = none) : Region.wanted o (yielded ops a.tmps) = true := by simp [Region.wanted, hgd]
theorem step_box {ops : Array Oper} {o : Oper} {a : Act} {K : Act → World → Prop} {Q : Exit → Act → World → Prop} {E : Prop} {w : World} (hgd : o.guard = none) (ho : o.op = .alloc 67)
    (h : K (a.put o.dst (pt w.heap.size)) (w.alloc (.cells #[.bool false, .slice none 0 0, .slice none 0 0] 67))) : if Region.wanted o (yielded ops a.tmps) = true then Oper.wp Tryz.prog o a w K Q else E := by
  rw [if_pos (wanted_plain hgd)]
  obtain ⟨dst, op, type, pos, after, guard⟩ := o
  simp only at ho
  subst ho
  go_simp
  exact h
theorem step_turn {ops : Array Oper} {o : Oper} {a : Act} {K : Act → World → Prop} {Q : Exit → Act → World → Prop} {E : Prop} {w : World} {A : Value} {x y : Nat} (hgd : o.guard = none)
    (ho : o.op = .call { callee := .value (.func 106), args := #[.tmp x, .tmp y], argTypes := #[67, 3] })
    (hc : Calls Tryz.prog 106 #[a.eval (.tmp x), a.eval (.tmp y)] w (RetV w A))
    (h : ∀ w', Bel w w' → K (a.put o.dst A) w') : if Region.wanted o (yielded ops a.tmps) = true then Oper.wp Tryz.prog o a w K Q else E := by
  rw [if_pos (wanted_plain hgd)]
  obtain ⟨dst, op, type, pos, after, guard⟩ := o
  simp only at ho
  subst ho
  unfold Oper.wp execOp
  simp only [resolve, invoke, Sem.run_bind, List.map_toArray, List.map_cons, List.map_nil]
  have hc2 : Calls Tryz.prog 106 #[a.tmps[x]?.getD undef, a.tmps[y]?.getD undef] w (RetV w A) := by simpa [Act.eval] using hc
  go_simp
  refine Calls.mono hc2 ?_
  rintro e w' ⟨rfl, hb⟩
  exact h w' hb


def puts (a : Act) (v7 v15 v16 v17 : Value) : Act := { a with tmps := (((a.tmps.setIfInBounds 26 v7).setIfInBounds 34 v15).setIfInBounds 10 v16).setIfInBounds 11 v17 }
theorem put26 (a : Act) (v7 v15 v16 v17 u : Value) : (puts a v7 v15 v16 v17).put (some 26) u = puts a u v15 v16 v17 := by
  simp only [puts, Act.put]
  rw [Array.setIfInBounds_comm (i := 11) (j := 26) _ _ (by decide), Array.setIfInBounds_comm (i := 10) (j := 26) _ _ (by decide), Array.setIfInBounds_comm (i := 34) (j := 26) _ _ (by decide), Array.setIfInBounds_setIfInBounds]
theorem put34 (a : Act) (v7 v15 v16 v17 u : Value) : (puts a v7 v15 v16 v17).put (some 34) u = puts a v7 u v16 v17 := by
  simp only [puts, Act.put]
  rw [Array.setIfInBounds_comm (i := 11) (j := 34) _ _ (by decide), Array.setIfInBounds_comm (i := 10) (j := 34) _ _ (by decide), Array.setIfInBounds_setIfInBounds]
theorem put10 (a : Act) (v7 v15 v16 v17 u : Value) : (puts a v7 v15 v16 v17).put (some 10) u = puts a v7 v15 u v17 := by
  simp only [puts, Act.put]
  rw [Array.setIfInBounds_comm (i := 11) (j := 10) _ _ (by decide), Array.setIfInBounds_setIfInBounds]
theorem put11 (a : Act) (v7 v15 v16 v17 u : Value) : (puts a v7 v15 v16 v17).put (some 11) u = puts a v7 v15 v16 u := by
  simp only [puts, Act.put]
  rw [Array.setIfInBounds_setIfInBounds]
theorem far23 (a : Act) (v7 v15 v16 v17 : Value) : (puts a v7 v15 v16 v17).eval (.tmp 23) = a.eval (.tmp 23) := by
  unfold puts Act.eval
  simp only [Array.getD_eq_getD_getElem?, Array.getElem?_setIfInBounds, Array.size_setIfInBounds]
  simp
theorem far25 (a : Act) (v7 v15 v16 v17 : Value) : (puts a v7 v15 v16 v17).eval (.tmp 25) = a.eval (.tmp 25) := by
  unfold puts Act.eval
  simp only [Array.getD_eq_getD_getElem?, Array.getElem?_setIfInBounds, Array.size_setIfInBounds]
  simp
theorem far31 (a : Act) (v7 v15 v16 v17 : Value) : (puts a v7 v15 v16 v17).eval (.tmp 31) = a.eval (.tmp 31) := by
  unfold puts Act.eval
  simp only [Array.getD_eq_getD_getElem?, Array.getElem?_setIfInBounds, Array.size_setIfInBounds]
  simp
theorem far33 (a : Act) (v7 v15 v16 v17 : Value) : (puts a v7 v15 v16 v17).eval (.tmp 33) = a.eval (.tmp 33) := by
  unfold puts Act.eval
  simp only [Array.getD_eq_getD_getElem?, Array.getElem?_setIfInBounds, Array.size_setIfInBounds]
  simp
def regTable : List (Array Bool × List Nat) := [
  (#[true, true, true, true, true, true, true, false, true, true, true, true, true, true, true, false, false, false, false, false], [7, 16, 17]),
  (#[true, true, true, true, true, true, true, true, true, true, true, true, true, true, true, false, false, false, false, false], [15, 16, 17]),
  (#[true, true, true, true, true, true, true, false, true, true, true, true, true, true, true, false, true, false, false, false], [7, 17]),
  (#[true, true, true, true, true, true, true, false, true, true, true, true, true, true, true, false, false, true, false, false], [7, 16]),
  (#[true, true, true, true, true, true, true, true, true, true, true, true, true, true, true, true, false, false, false, false], [16, 17]),
  (#[true, true, true, true, true, true, true, true, true, true, true, true, true, true, true, false, true, false, false, false], [15, 17]),
  (#[true, true, true, true, true, true, true, true, true, true, true, true, true, true, true, false, false, true, false, false], [15, 16]),
  (#[true, true, true, true, true, true, true, false, true, true, true, true, true, true, true, false, true, true, false, false], [7]),
  (#[true, true, true, true, true, true, true, true, true, true, true, true, true, true, true, true, true, false, false, false], [17]),
  (#[true, true, true, true, true, true, true, true, true, true, true, true, true, true, true, true, false, true, false, false], [16]),
  (#[true, true, true, true, true, true, true, true, true, true, true, true, true, true, true, false, true, true, false, false], [15]),
  (#[true, true, true, true, true, true, true, true, true, true, true, true, true, true, true, true, true, true, false, false], [18])]
structure Reg (ops : Array Oper) (a0 : Act) (A B : Value) : Prop where
  n : 40 ≤ a0.tmps.size
  h7 : ∃ o, ops[7]? = some o ∧ o.guard = none ∧ o.dst = some 26 ∧ o.op = .call { callee := .value (.func 106), args := #[.tmp 23, .tmp 25], argTypes := #[67, 3] }
  h15 : ∃ o, ops[15]? = some o ∧ o.guard = none ∧ o.dst = some 34 ∧ o.op = .call { callee := .value (.func 106), args := #[.tmp 31, .tmp 33], argTypes := #[67, 3] }
  h16 : ∃ o, ops[16]? = some o ∧ o.guard = none ∧ o.dst = some 10 ∧ o.op = .alloc 67
  h17 : ∃ o, ops[17]? = some o ∧ o.guard = none ∧ o.dst = some 11 ∧ o.op = .alloc 67
  c7 : ∀ w, Calls Tryz.prog 106 #[a0.eval (.tmp 23), a0.eval (.tmp 25)] w (RetV w A)
  c15 : ∀ w, Calls Tryz.prog 106 #[a0.eval (.tmp 31), a0.eval (.tmp 33)] w (RetV w B)
  rd : (regTable.all fun c => Region.ready .any ops c.1 == c.2) = true
theorem Reg.row {ops a0 A B} (H : Reg ops a0 A B) (i : Nat) {c : Array Bool × List Nat} (h : regTable[i]? = some c) : Region.ready .any ops c.1 = c.2 :=
  eq_of_beq (List.all_eq_true.1 H.rd c (List.mem_of_getElem? h))

def RegTail (ops : Array Oper) (Q : Exit → Act → World → Prop) (S : World → Prop) (a0 : Act) (w0 : World) (A B : Value) : Prop :=
  ∀ g1 g2 w, Bel w0 w → Zb w g1 → Zb w g2 → w0.heap.size ≤ g1 → w0.heap.size ≤ g2 → g1 ≠ g2 → wpAnyH Tryz.prog .any ops Q S 2 #[true, true, true, true, true, true, true, true, true, true, true, true, true, true, true, true, true, true, false, false] (puts a0 A B (pt g1) (pt g2)) w
theorem st7_15_16_17 {ops : Array Oper} {Q : Exit → Act → World → Prop} {S : World → Prop} {a0 : Act} {w0 : World} {A B : Value} (_H : Reg ops a0 A B) (HK : RegTail ops Q S a0 w0 A B) (_hS : ∀ w, Bel w0 w → S w) (g1 : Nat) (g2 : Nat) (w : World) (hb : Bel w0 w) (z1 : Zb w g1) (l1 : w0.heap.size ≤ g1) (z2 : Zb w g2) (l2 : w0.heap.size ≤ g2) (ne : g1 ≠ g2) : wpAnyH Tryz.prog .any ops Q S 2 #[true, true, true, true, true, true, true, true, true, true, true, true, true, true, true, true, true, true, false, false] (puts a0 A B (pt g1) (pt g2)) w := by
  exact HK g1 g2 w hb z1 z2 l1 l2 ne
theorem st7_16_17 {ops : Array Oper} {Q : Exit → Act → World → Prop} {S : World → Prop} {a0 : Act} {w0 : World} {A B : Value} (H : Reg ops a0 A B) (HK : RegTail ops Q S a0 w0 A B) (hS : ∀ w, Bel w0 w → S w) (v15 : Value) (g1 : Nat) (g2 : Nat) (w : World) (hb : Bel w0 w) (z1 : Zb w g1) (l1 : w0.heap.size ≤ g1) (z2 : Zb w g2) (l2 : w0.heap.size ≤ g2) (ne : g1 ≠ g2) : wpAnyH Tryz.prog .any ops Q S 3 #[true, true, true, true, true, true, true, true, true, true, true, true, true, true, true, false, true, true, false, false] (puts a0 A v15 (pt g1) (pt g2)) w := by
  refine wpAnyH_ready (H.row 10 rfl) (by simp) ?_
  obtain ⟨o, a1, a2, a3, a4⟩ := H.h15
  refine AllReadyH.cons a1 (fun K hK => ?_) ?_
  · refine step_turn a2 a4 (by rw [far31, far33]; exact H.c15 w) ?_
    intro w' hbb
    have hb' := hb.step hbb
    rw [a3, put34]
    exact hK.out _ _ (hS _ hb') (fun _ => st7_15_16_17 H HK hS  g1 g2 _ hb' (z1.bel hbb) l1 (z2.bel hbb) l2 ne)
  exact AllReadyH.nil
theorem st7_15_17 {ops : Array Oper} {Q : Exit → Act → World → Prop} {S : World → Prop} {a0 : Act} {w0 : World} {A B : Value} (H : Reg ops a0 A B) (HK : RegTail ops Q S a0 w0 A B) (hS : ∀ w, Bel w0 w → S w) (v16 : Value) (g2 : Nat) (w : World) (hb : Bel w0 w) (z2 : Zb w g2) (l2 : w0.heap.size ≤ g2) : wpAnyH Tryz.prog .any ops Q S 3 #[true, true, true, true, true, true, true, true, true, true, true, true, true, true, true, true, false, true, false, false] (puts a0 A B v16 (pt g2)) w := by
  refine wpAnyH_ready (H.row 9 rfl) (by simp) ?_
  obtain ⟨o, a1, a2, a3, a4⟩ := H.h16
  refine AllReadyH.cons a1 (fun K hK => ?_) ?_
  · refine step_box a2 a4 ?_
    have hbb := Bel.alloc0 w (.cells #[.bool false, .slice none 0 0, .slice none 0 0] 67)
    have hb' := hb.step hbb
    rw [a3, put10]
    exact hK.out _ _ (hS _ hb') (fun _ => st7_15_16_17 H HK hS  w.heap.size g2 _ hb' (Zb.new w _) hb.size (z2.bel hbb) l2 (Nat.ne_of_gt z2.lt))
  exact AllReadyH.nil
theorem st7_15_16 {ops : Array Oper} {Q : Exit → Act → World → Prop} {S : World → Prop} {a0 : Act} {w0 : World} {A B : Value} (H : Reg ops a0 A B) (HK : RegTail ops Q S a0 w0 A B) (hS : ∀ w, Bel w0 w → S w) (v17 : Value) (g1 : Nat) (w : World) (hb : Bel w0 w) (z1 : Zb w g1) (l1 : w0.heap.size ≤ g1) : wpAnyH Tryz.prog .any ops Q S 3 #[true, true, true, true, true, true, true, true, true, true, true, true, true, true, true, true, true, false, false, false] (puts a0 A B (pt g1) v17) w := by
  refine wpAnyH_ready (H.row 8 rfl) (by simp) ?_
  obtain ⟨o, a1, a2, a3, a4⟩ := H.h17
  refine AllReadyH.cons a1 (fun K hK => ?_) ?_
  · refine step_box a2 a4 ?_
    have hbb := Bel.alloc0 w (.cells #[.bool false, .slice none 0 0, .slice none 0 0] 67)
    have hb' := hb.step hbb
    rw [a3, put11]
    exact hK.out _ _ (hS _ hb') (fun _ => st7_15_16_17 H HK hS  g1 w.heap.size _ hb' (z1.bel hbb) l1 (Zb.new w _) hb.size (Nat.ne_of_lt z1.lt))
  exact AllReadyH.nil
theorem st16_17 {ops : Array Oper} {Q : Exit → Act → World → Prop} {S : World → Prop} {a0 : Act} {w0 : World} {A B : Value} (H : Reg ops a0 A B) (HK : RegTail ops Q S a0 w0 A B) (hS : ∀ w, Bel w0 w → S w) (v7 v15 : Value) (g1 : Nat) (g2 : Nat) (w : World) (hb : Bel w0 w) (z1 : Zb w g1) (l1 : w0.heap.size ≤ g1) (z2 : Zb w g2) (l2 : w0.heap.size ≤ g2) (ne : g1 ≠ g2) : wpAnyH Tryz.prog .any ops Q S 4 #[true, true, true, true, true, true, true, false, true, true, true, true, true, true, true, false, true, true, false, false] (puts a0 v7 v15 (pt g1) (pt g2)) w := by
  refine wpAnyH_ready (H.row 7 rfl) (by simp) ?_
  obtain ⟨o, a1, a2, a3, a4⟩ := H.h7
  refine AllReadyH.cons a1 (fun K hK => ?_) ?_
  · refine step_turn a2 a4 (by rw [far23, far25]; exact H.c7 w) ?_
    intro w' hbb
    have hb' := hb.step hbb
    rw [a3, put26]
    exact hK.out _ _ (hS _ hb') (fun _ => st7_16_17 H HK hS v15 g1 g2 _ hb' (z1.bel hbb) l1 (z2.bel hbb) l2 ne)
  exact AllReadyH.nil
theorem st7_17 {ops : Array Oper} {Q : Exit → Act → World → Prop} {S : World → Prop} {a0 : Act} {w0 : World} {A B : Value} (H : Reg ops a0 A B) (HK : RegTail ops Q S a0 w0 A B) (hS : ∀ w, Bel w0 w → S w) (v15 v16 : Value) (g2 : Nat) (w : World) (hb : Bel w0 w) (z2 : Zb w g2) (l2 : w0.heap.size ≤ g2) : wpAnyH Tryz.prog .any ops Q S 4 #[true, true, true, true, true, true, true, true, true, true, true, true, true, true, true, false, false, true, false, false] (puts a0 A v15 v16 (pt g2)) w := by
  refine wpAnyH_ready (H.row 6 rfl) (by simp) ?_
  obtain ⟨o, a1, a2, a3, a4⟩ := H.h15
  refine AllReadyH.cons a1 (fun K hK => ?_) ?_
  · refine step_turn a2 a4 (by rw [far31, far33]; exact H.c15 w) ?_
    intro w' hbb
    have hb' := hb.step hbb
    rw [a3, put34]
    exact hK.out _ _ (hS _ hb') (fun _ => st7_15_17 H HK hS v16 g2 _ hb' (z2.bel hbb) l2)
  obtain ⟨o, a1, a2, a3, a4⟩ := H.h16
  refine AllReadyH.cons a1 (fun K hK => ?_) ?_
  · refine step_box a2 a4 ?_
    have hbb := Bel.alloc0 w (.cells #[.bool false, .slice none 0 0, .slice none 0 0] 67)
    have hb' := hb.step hbb
    rw [a3, put10]
    exact hK.out _ _ (hS _ hb') (fun _ => st7_16_17 H HK hS v15 w.heap.size g2 _ hb' (Zb.new w _) hb.size (z2.bel hbb) l2 (Nat.ne_of_gt z2.lt))
  exact AllReadyH.nil
theorem st7_16 {ops : Array Oper} {Q : Exit → Act → World → Prop} {S : World → Prop} {a0 : Act} {w0 : World} {A B : Value} (H : Reg ops a0 A B) (HK : RegTail ops Q S a0 w0 A B) (hS : ∀ w, Bel w0 w → S w) (v15 v17 : Value) (g1 : Nat) (w : World) (hb : Bel w0 w) (z1 : Zb w g1) (l1 : w0.heap.size ≤ g1) : wpAnyH Tryz.prog .any ops Q S 4 #[true, true, true, true, true, true, true, true, true, true, true, true, true, true, true, false, true, false, false, false] (puts a0 A v15 (pt g1) v17) w := by
  refine wpAnyH_ready (H.row 5 rfl) (by simp) ?_
  obtain ⟨o, a1, a2, a3, a4⟩ := H.h15
  refine AllReadyH.cons a1 (fun K hK => ?_) ?_
  · refine step_turn a2 a4 (by rw [far31, far33]; exact H.c15 w) ?_
    intro w' hbb
    have hb' := hb.step hbb
    rw [a3, put34]
    exact hK.out _ _ (hS _ hb') (fun _ => st7_15_16 H HK hS v17 g1 _ hb' (z1.bel hbb) l1)
  obtain ⟨o, a1, a2, a3, a4⟩ := H.h17
  refine AllReadyH.cons a1 (fun K hK => ?_) ?_
  · refine step_box a2 a4 ?_
    have hbb := Bel.alloc0 w (.cells #[.bool false, .slice none 0 0, .slice none 0 0] 67)
    have hb' := hb.step hbb
    rw [a3, put11]
    exact hK.out _ _ (hS _ hb') (fun _ => st7_16_17 H HK hS v15 g1 w.heap.size _ hb' (z1.bel hbb) l1 (Zb.new w _) hb.size (Nat.ne_of_lt z1.lt))
  exact AllReadyH.nil
theorem st7_15 {ops : Array Oper} {Q : Exit → Act → World → Prop} {S : World → Prop} {a0 : Act} {w0 : World} {A B : Value} (H : Reg ops a0 A B) (HK : RegTail ops Q S a0 w0 A B) (hS : ∀ w, Bel w0 w → S w) (v16 v17 : Value) (w : World) (hb : Bel w0 w) : wpAnyH Tryz.prog .any ops Q S 4 #[true, true, true, true, true, true, true, true, true, true, true, true, true, true, true, true, false, false, false, false] (puts a0 A B v16 v17) w := by
  refine wpAnyH_ready (H.row 4 rfl) (by simp) ?_
  obtain ⟨o, a1, a2, a3, a4⟩ := H.h16
  refine AllReadyH.cons a1 (fun K hK => ?_) ?_
  · refine step_box a2 a4 ?_
    have hbb := Bel.alloc0 w (.cells #[.bool false, .slice none 0 0, .slice none 0 0] 67)
    have hb' := hb.step hbb
    rw [a3, put10]
    exact hK.out _ _ (hS _ hb') (fun _ => st7_15_16 H HK hS v17 w.heap.size _ hb' (Zb.new w _) hb.size)
  obtain ⟨o, a1, a2, a3, a4⟩ := H.h17
  refine AllReadyH.cons a1 (fun K hK => ?_) ?_
  · refine step_box a2 a4 ?_
    have hbb := Bel.alloc0 w (.cells #[.bool false, .slice none 0 0, .slice none 0 0] 67)
    have hb' := hb.step hbb
    rw [a3, put11]
    exact hK.out _ _ (hS _ hb') (fun _ => st7_15_17 H HK hS v16 w.heap.size _ hb' (Zb.new w _) hb.size)
  exact AllReadyH.nil
theorem st17 {ops : Array Oper} {Q : Exit → Act → World → Prop} {S : World → Prop} {a0 : Act} {w0 : World} {A B : Value} (H : Reg ops a0 A B) (HK : RegTail ops Q S a0 w0 A B) (hS : ∀ w, Bel w0 w → S w) (v7 v15 v16 : Value) (g2 : Nat) (w : World) (hb : Bel w0 w) (z2 : Zb w g2) (l2 : w0.heap.size ≤ g2) : wpAnyH Tryz.prog .any ops Q S 5 #[true, true, true, true, true, true, true, false, true, true, true, true, true, true, true, false, false, true, false, false] (puts a0 v7 v15 v16 (pt g2)) w := by
  refine wpAnyH_ready (H.row 3 rfl) (by simp) ?_
  obtain ⟨o, a1, a2, a3, a4⟩ := H.h7
  refine AllReadyH.cons a1 (fun K hK => ?_) ?_
  · refine step_turn a2 a4 (by rw [far23, far25]; exact H.c7 w) ?_
    intro w' hbb
    have hb' := hb.step hbb
    rw [a3, put26]
    exact hK.out _ _ (hS _ hb') (fun _ => st7_17 H HK hS v15 v16 g2 _ hb' (z2.bel hbb) l2)
  obtain ⟨o, a1, a2, a3, a4⟩ := H.h16
  refine AllReadyH.cons a1 (fun K hK => ?_) ?_
  · refine step_box a2 a4 ?_
    have hbb := Bel.alloc0 w (.cells #[.bool false, .slice none 0 0, .slice none 0 0] 67)
    have hb' := hb.step hbb
    rw [a3, put10]
    exact hK.out _ _ (hS _ hb') (fun _ => st16_17 H HK hS v7 v15 w.heap.size g2 _ hb' (Zb.new w _) hb.size (z2.bel hbb) l2 (Nat.ne_of_gt z2.lt))
  exact AllReadyH.nil
theorem st16 {ops : Array Oper} {Q : Exit → Act → World → Prop} {S : World → Prop} {a0 : Act} {w0 : World} {A B : Value} (H : Reg ops a0 A B) (HK : RegTail ops Q S a0 w0 A B) (hS : ∀ w, Bel w0 w → S w) (v7 v15 v17 : Value) (g1 : Nat) (w : World) (hb : Bel w0 w) (z1 : Zb w g1) (l1 : w0.heap.size ≤ g1) : wpAnyH Tryz.prog .any ops Q S 5 #[true, true, true, true, true, true, true, false, true, true, true, true, true, true, true, false, true, false, false, false] (puts a0 v7 v15 (pt g1) v17) w := by
  refine wpAnyH_ready (H.row 2 rfl) (by simp) ?_
  obtain ⟨o, a1, a2, a3, a4⟩ := H.h7
  refine AllReadyH.cons a1 (fun K hK => ?_) ?_
  · refine step_turn a2 a4 (by rw [far23, far25]; exact H.c7 w) ?_
    intro w' hbb
    have hb' := hb.step hbb
    rw [a3, put26]
    exact hK.out _ _ (hS _ hb') (fun _ => st7_16 H HK hS v15 v17 g1 _ hb' (z1.bel hbb) l1)
  obtain ⟨o, a1, a2, a3, a4⟩ := H.h17
  refine AllReadyH.cons a1 (fun K hK => ?_) ?_
  · refine step_box a2 a4 ?_
    have hbb := Bel.alloc0 w (.cells #[.bool false, .slice none 0 0, .slice none 0 0] 67)
    have hb' := hb.step hbb
    rw [a3, put11]
    exact hK.out _ _ (hS _ hb') (fun _ => st16_17 H HK hS v7 v15 g1 w.heap.size _ hb' (z1.bel hbb) l1 (Zb.new w _) hb.size (Nat.ne_of_lt z1.lt))
  exact AllReadyH.nil
theorem st7 {ops : Array Oper} {Q : Exit → Act → World → Prop} {S : World → Prop} {a0 : Act} {w0 : World} {A B : Value} (H : Reg ops a0 A B) (HK : RegTail ops Q S a0 w0 A B) (hS : ∀ w, Bel w0 w → S w) (v15 v16 v17 : Value) (w : World) (hb : Bel w0 w) : wpAnyH Tryz.prog .any ops Q S 5 #[true, true, true, true, true, true, true, true, true, true, true, true, true, true, true, false, false, false, false, false] (puts a0 A v15 v16 v17) w := by
  refine wpAnyH_ready (H.row 1 rfl) (by simp) ?_
  obtain ⟨o, a1, a2, a3, a4⟩ := H.h15
  refine AllReadyH.cons a1 (fun K hK => ?_) ?_
  · refine step_turn a2 a4 (by rw [far31, far33]; exact H.c15 w) ?_
    intro w' hbb
    have hb' := hb.step hbb
    rw [a3, put34]
    exact hK.out _ _ (hS _ hb') (fun _ => st7_15 H HK hS v16 v17 _ hb')
  obtain ⟨o, a1, a2, a3, a4⟩ := H.h16
  refine AllReadyH.cons a1 (fun K hK => ?_) ?_
  · refine step_box a2 a4 ?_
    have hbb := Bel.alloc0 w (.cells #[.bool false, .slice none 0 0, .slice none 0 0] 67)
    have hb' := hb.step hbb
    rw [a3, put10]
    exact hK.out _ _ (hS _ hb') (fun _ => st7_16 H HK hS v15 v17 w.heap.size _ hb' (Zb.new w _) hb.size)
  obtain ⟨o, a1, a2, a3, a4⟩ := H.h17
  refine AllReadyH.cons a1 (fun K hK => ?_) ?_
  · refine step_box a2 a4 ?_
    have hbb := Bel.alloc0 w (.cells #[.bool false, .slice none 0 0, .slice none 0 0] 67)
    have hb' := hb.step hbb
    rw [a3, put11]
    exact hK.out _ _ (hS _ hb') (fun _ => st7_17 H HK hS v15 v16 w.heap.size _ hb' (Zb.new w _) hb.size)
  exact AllReadyH.nil
theorem st {ops : Array Oper} {Q : Exit → Act → World → Prop} {S : World → Prop} {a0 : Act} {w0 : World} {A B : Value} (H : Reg ops a0 A B) (HK : RegTail ops Q S a0 w0 A B) (hS : ∀ w, Bel w0 w → S w) (v7 v15 v16 v17 : Value) (w : World) (hb : Bel w0 w) : wpAnyH Tryz.prog .any ops Q S 6 #[true, true, true, true, true, true, true, false, true, true, true, true, true, true, true, false, false, false, false, false] (puts a0 v7 v15 v16 v17) w := by
  refine wpAnyH_ready (H.row 0 rfl) (by simp) ?_
  obtain ⟨o, a1, a2, a3, a4⟩ := H.h7
  refine AllReadyH.cons a1 (fun K hK => ?_) ?_
  · refine step_turn a2 a4 (by rw [far23, far25]; exact H.c7 w) ?_
    intro w' hbb
    have hb' := hb.step hbb
    rw [a3, put26]
    exact hK.out _ _ (hS _ hb') (fun _ => st7 H HK hS v15 v16 v17 _ hb')
  obtain ⟨o, a1, a2, a3, a4⟩ := H.h16
  refine AllReadyH.cons a1 (fun K hK => ?_) ?_
  · refine step_box a2 a4 ?_
    have hbb := Bel.alloc0 w (.cells #[.bool false, .slice none 0 0, .slice none 0 0] 67)
    have hb' := hb.step hbb
    rw [a3, put10]
    exact hK.out _ _ (hS _ hb') (fun _ => st16 H HK hS v7 v15 v17 w.heap.size _ hb' (Zb.new w _) hb.size)
  obtain ⟨o, a1, a2, a3, a4⟩ := H.h17
  refine AllReadyH.cons a1 (fun K hK => ?_) ?_
  · refine step_box a2 a4 ?_
    have hbb := Bel.alloc0 w (.cells #[.bool false, .slice none 0 0, .slice none 0 0] 67)
    have hb' := hb.step hbb
    rw [a3, put11]
    exact hK.out _ _ (hS _ hb') (fun _ => st17 H HK hS v7 v15 v16 w.heap.size _ hb' (Zb.new w _) hb.size)
  exact AllReadyH.nil
theorem set_getD (t : Array Value) (i : Nat) (hi : i < t.size) : t.setIfInBounds i (t.getD i undef) = t := by
  apply Array.ext_getElem?
  intro j
  simp only [Array.getElem?_setIfInBounds, Array.getD_eq_getD_getElem?]
  by_cases e : i = j
  · subst e; simp [hi]
  · simp [e]
theorem puts_self {a0 : Act} (h : 40 ≤ a0.tmps.size) : puts a0 (a0.eval (.tmp 26)) (a0.eval (.tmp 34)) (a0.eval (.tmp 10)) (a0.eval (.tmp 11)) = a0 := by
  unfold puts Act.eval
  simp only [set_getD a0.tmps 26 (by omega), set_getD a0.tmps 34 (by omega), set_getD a0.tmps 10 (by omega), set_getD a0.tmps 11 (by omega)]
/-- The region from its calls and boxes on: whatever the order, the stores come with both values and two new boxes. -/
theorem region_go {ops : Array Oper} {Q : Exit → Act → World → Prop} {S : World → Prop} {a0 : Act} {w0 : World} {A B : Value} (H : Reg ops a0 A B) (hS : ∀ w, Bel w0 w → S w) (HK : RegTail ops Q S a0 w0 A B) :
    wpAnyH Tryz.prog .any ops Q S 6 #[true, true, true, true, true, true, true, false, true, true, true, true, true, true, true, false, false, false, false, false] a0 w0 := by
  have h := st H HK hS (a0.eval (.tmp 26)) (a0.eval (.tmp 34)) (a0.eval (.tmp 10)) (a0.eval (.tmp 11)) w0 (Bel.rfl' _)
  rwa [puts_self H.n] at h
end Go.Proofs.YtikllmdmifecpaaGreatDoor.Ru
end
section
/- Chapter 6, the program: five slices of literals joined, one of them built of one literal. -/
namespace Go.Proofs.YtikllmdmifecpaaGreatDoor
open Go.RowKit

theorem litb_slc (w : World) (p : Bool) (z1 z2 : Value) (t1 t2 : List Int) (t : TypeId) (g1 : SlI 0 w.heap.size w z1 t1) (g2 : SlI 0 w.heap.size w z2 t2) :
    SlC 0 (w.alloc (.cells #[.bool p, z1, z2] t)).heap.size (w.alloc (.cells #[.bool p, z1, z2] t)) (.slice (some ⟨w.heap.size, 0, none⟩) 1 1) [(p, t1, t2)] := by
  have hs : w.heap.size < (w.alloc (.cells #[.bool p, z1, z2] t)).heap.size := by simp
  have hb := Bel.alloc0 w (.cells #[.bool p, z1, z2] t)
  refine ⟨_, 1, rfl, Nat.le_refl _, ⟨by unfold maxLen; omega, fun h => by simp at h⟩, fun _ => ⟨w.heap.size, 0, rfl, Nat.zero_le _, hs, fun j hj => ?_⟩⟩
  obtain rfl : j = 0 := by simp at hj; omega
  exact ⟨z1, z2, (World.cell?_alloc_new w _ t 0).trans (by simp [List.getD]), (World.cell?_alloc_new w _ t 1).trans (by simp), (World.cell?_alloc_new w _ t 2).trans (by simp), (g1.below hb).mono (Nat.le_refl _) (Nat.le_of_lt hs), (g2.below hb).mono (Nat.le_refl _) (Nat.le_of_lt hs)⟩

/-- Five slices of literals in a new block, joined; the fourth is built of one literal. -/
theorem concat5C_c (p0 p1 p2 p4 : Option Addr) (n0 n1 n2 n4 c0 c1 c2 c4 : Nat) (x0 x1 x2 x4 : List Lt) (p : Bool) (z1 z2 : Value) (s1 s2 : List Int) (w : World) (hs : x0.length + x1.length + x2.length + x4.length ≤ 1048576)
    (h0 : SlC 0 w.heap.size w (.slice p0 n0 c0) x0) (h1 : SlC 0 w.heap.size w (.slice p1 n1 c1) x1) (h2 : SlC 0 w.heap.size w (.slice p2 n2 c2) x2) (h4 : SlC 0 w.heap.size w (.slice p4 n4 c4) x4) (g1 : SlI 0 w.heap.size w z1 s1) (g2 : SlI 0 w.heap.size w z2 s2) (t t5 : TypeId) :
    Calls Tryz.prog 115 #[.slice (some ⟨w.heap.size + 1, 0, none⟩) 5 5] ((w.alloc (.cells #[.bool p, z1, z2] t)).alloc (.cells #[.slice p0 n0 c0, .slice p1 n1 c1, .slice p2 n2 c2, .slice (some ⟨w.heap.size, 0, none⟩) 1 1, .slice p4 n4 c4] t5))
      (RetSC ((w.alloc (.cells #[.bool p, z1, z2] t)).alloc (.cells #[.slice p0 n0 c0, .slice p1 n1 c1, .slice p2 n2 c2, .slice (some ⟨w.heap.size, 0, none⟩) 1 1, .slice p4 n4 c4] t5)) (x0 ++ x1 ++ x2 ++ [(p, s1, s2)] ++ x4)) := by
  obtain rfl := h0.len
  obtain rfl := h1.len
  obtain rfl := h2.len
  obtain rfl := h4.len
  have hl := litb_slc w p z1 z2 s1 s2 t g1 g2
  have hbl := Bel.alloc0 w (.cells #[.bool p, z1, z2] t)
  have hws : (w.alloc (.cells #[.bool p, z1, z2] t)).heap.size = w.heap.size + 1 := by simp
  generalize w.alloc (.cells #[.bool p, z1, z2] t) = w1 at *
  have hb : Bel w1 (w1.alloc (.cells #[.slice p0 x0.length c0, .slice p1 x1.length c1, .slice p2 x2.length c2, .slice (some ⟨w.heap.size, 0, none⟩) 1 1, .slice p4 x4.length c4] t5)) := Bel.alloc0 w1 _
  have hbw := hbl.step hb
  rw [← hws]
  have hp : PartsC (w1.alloc (.cells #[.slice p0 x0.length c0, .slice p1 x1.length c1, .slice p2 x2.length c2, .slice (some ⟨w.heap.size, 0, none⟩) 1 1, .slice p4 x4.length c4] t5)) w1.heap.size 0 [x0, x1, x2, [(p, s1, s2)], x4] := by
    intro j hj
    match j, hj with
    | 0, _ => exact ⟨p0, c0, (World.cell?_alloc_new w1 _ t5 0).trans (by simp), (h0.below hbw).mono (Nat.le_refl _) hbw.size⟩
    | 1, _ => exact ⟨p1, c1, (World.cell?_alloc_new w1 _ t5 1).trans (by simp), (h1.below hbw).mono (Nat.le_refl _) hbw.size⟩
    | 2, _ => exact ⟨p2, c2, (World.cell?_alloc_new w1 _ t5 2).trans (by simp), (h2.below hbw).mono (Nat.le_refl _) hbw.size⟩
    | 3, _ => exact ⟨some ⟨w.heap.size, 0, none⟩, 1, (World.cell?_alloc_new w1 _ t5 3).trans (by simp), (hl.below hb).mono (Nat.le_refl _) hb.size⟩
    | 4, _ => exact ⟨p4, c4, (World.cell?_alloc_new w1 _ t5 4).trans (by simp), (h4.below hbw).mono (Nat.le_refl _) hbw.size⟩
  have := concatC_c w1.heap.size 0 5 [x0, x1, x2, [(p, s1, s2)], x4] _ (by simp) (by simp [sumLenC]; omega) hp
  simpa using this
/-- The clause before the unifier, as the program joins it. -/
theorem supPre_parts (ar : List Int) (c e : List Lt) (k1 k2 : Nat) (ws wo wa : Int) (hk : k2 < e.length) (x : Lt) (hx : putSide (e.getD k2 lt0) wo (replIn ar (supU e ((k1 : Int), ws, (k2 : Int), wo, wa)) wa (facR c ((k1 : Int), ws, (k2 : Int), wo, wa))) = x) :
    c.take k1 ++ c.drop (k1 + 1) ++ e.take k2 ++ [x] ++ e.drop (k2 + 1) = supPre ar c e ((k1 : Int), ws, (k2 : Int), wo, wa) := by
  unfold supPre
  dsimp only
  rw [Int.toNat_natCast, Int.toNat_natCast, hx, List.set_eq_take_append_cons_drop, if_pos hk]
  unfold dropAt
  simp
end Go.Proofs.YtikllmdmifecpaaGreatDoor
end
section
/- Chapter 6, the program's superposed: the clause before the unifier; its terms and what the substitution makes of them. No program. -/
namespace Go.Proofs.YtikllmdmifecpaaGreatDoor
open Go.RowKit

theorem appT_ge (b : List (List Int)) (t : List Int) : t.length ≤ (appT b t).length := by rw [len_app]; omega
/-- A term behind a replacement, of whatever length. -/
theorem app_ok2 {ar U r : List Int} {k q : Nat} {b : List (List Int)} (hb : goodSubst ar b = true) (hU : okTerm ar U = true) (hr : okTerm ar r = true) (hk : k < U.length) (he : endOf ar U k = some q) :
    okTerm ar (appT b (replaced U k q r)) = app40ok b (replaced U k q r) := by
  by_cases h : (replaced U k q r).length ≤ 40
  · exact app_ok hb (by rw [replaced_ok ar U r k q hU hr hk he]; simpa using h)
  · have h1 := appT_ge b (replaced U k q r)
    rw [(app40_no (by omega)).2]
    cases h2 : okTerm ar (appT b (replaced U k q r)) with
    | false => rfl
    | true => have := (okTerm_len h2).2; omega
theorem applyC_okW {ar : List Int} {b : List (List Int)} {c : List Lt} (h : ∀ t ∈ flatC c, okTerm ar (appT b t) = app40ok b t) : okLits ar (applyC b c) = (decide (c.length ≤ 8) && (flatC c).all (app40ok b)) := by
  unfold okLits
  rw [← flat_all, applyC_flat, show (applyC b c).length = c.length from by simp [applyC], List.all_map]
  congr 1
  rw [Bool.eq_iff_iff, List.all_eq_true, List.all_eq_true]
  constructor
  · intro k t ht
    rw [← h t ht]; exact k t ht
  · intro k t ht
    show okTerm ar (appT b t) = true
    rw [h t ht]; exact k t ht
theorem flatC_mem {c : List Lt} {t : List Int} : t ∈ flatC c ↔ ∃ x ∈ c, t = x.2.1 ∨ t = x.2.2 := by
  unfold flatC
  simp
/-- The terms of the clause before the unifier. -/
theorem supPre_mem {ar : List Int} {c d : List Lt} {k1 k2 : Nat} {ws wo wa : Int} (hc : okLits ar c = true) (hd : okLits ar d = true) (hk : k2 < d.length) :
    ∀ t ∈ flatC (supPre ar c d ((k1 : Int), ws, (k2 : Int), wo, wa)), okTerm ar t = true ∨ t = replIn ar (supU d ((k1 : Int), ws, (k2 : Int), wo, wa)) wa (facR c ((k1 : Int), ws, (k2 : Int), wo, wa)) := by
  intro t ht
  obtain ⟨x, hx, e⟩ := flatC_mem.1 ht
  unfold supPre at hx
  dsimp only at hx
  rw [Int.toNat_natCast, Int.toNat_natCast] at hx
  have hcx := (okLits_iff.1 hc).2
  have hdx := (okLits_iff.1 hd).2
  have hof : ∀ y : Lt, okLit ar y = true → (t = y.2.1 ∨ t = y.2.2) → okTerm ar t = true := fun y hy h => by
    obtain ⟨q1, q2⟩ := okLit_iff.1 hy
    rcases h with rfl | rfl
    · exact q1
    · exact q2
  rcases List.mem_append.1 hx with h | h
  · unfold dropAt at h
    left
    refine hof x (hcx x ?_) e
    rcases List.mem_append.1 h with h | h
    · exact List.mem_of_mem_take h
    · exact List.mem_of_mem_drop h
  · rcases List.mem_or_eq_of_mem_set h with h | h
    · exact .inl (hof x (hdx x h) e)
    · subst h
      obtain ⟨q1, q2⟩ := okLits_get hdx k2 hk
      unfold putSide at e
      split at e
      · rcases e with e | e
        · exact .inr e
        · exact .inl (by rw [e]; exact q2)
      · rcases e with e | e
        · exact .inl (by rw [e]; exact q1)
        · exact .inr e
theorem supPre_rows {ar U r : List Int} {k q : Nat} (hU : okTerm ar U = true) (hr : okTerm ar r = true) : (replaced U k q r).length ≤ 1024 ∧ ∀ j, j < (replaced U k q r).length → -12 ≤ (replaced U k q r).getD j 0 := by
  refine ⟨by unfold replaced; have := (okTerm_len hU).2; have := (okTerm_len hr).2; simp; omega, low_memC fun z hz => ?_⟩
  unfold replaced at hz
  rcases List.mem_append.1 hz with hz | hz
  · rcases List.mem_append.1 hz with hz | hz
    · exact ok_low hU (List.mem_of_mem_take hz)
    · exact ok_low hr hz
  · exact ok_low hU (List.mem_of_mem_drop hz)
end Go.Proofs.YtikllmdmifecpaaGreatDoor
end
section
/- Chapter 6, the program: superposed. -/
namespace Go.Proofs.YtikllmdmifecpaaGreatDoor
open Go.RowKit

open Ru

theorem SlS.setU {lo hi w v xss} (h : SlS lo hi w v xss) {p : Addr} (hp : p.block < lo ∨ hi ≤ p.block) (u : Value) : SlS lo hi (w.setCell p u) v xss :=
  h.same fun b h1 h2 _ => Below.heap_setCell w p u b (by omega)

set_option maxRecDepth 100000 in
set_option maxHeartbeats 2000000 in
theorem superposed_c (l0 m0 l1 m1 l2 m2 : Nat) (v u x : Value) (ar : List Int) (c d : List Lt) (wy : Wy) (w : World) (hT : Tab w) (ha : ar.length ≤ 1048576) (hg : goodSign ar = true) (hc : okLits ar c = true) (hd : okLits ar d = true) (hin : supIn c d wy = true) (hv : SlI l0 m0 w v ar) (hu : SlC l1 m1 w u c) (hx : SlC l2 m2 w x d) :
    Calls Tryz.prog 59 #[.agg #[v], u, x, .agg #[.int .i64 wy.1, .int .i64 wy.2.1, .int .i64 wy.2.2.1, .int .i64 wy.2.2.2.1, .int .i64 wy.2.2.2.2]] w (RetSN w (supE ar c d wy).1 (supE ar c d wy).2) := by
  obtain ⟨wi, ws, wj, wo, wa⟩ := wy
  generalize hgo0 : supE ar c d (wi, ws, wj, wo, wa) = RR
  obtain ⟨r, n⟩ := RR
  obtain ⟨⟨⟨h1, hp1⟩, h2⟩, h4, h5⟩ := supIn_iff.1 hin
  dsimp only at h1 hp1 h2 h4 h5 ⊢
  have hgo := Lib.hid hgo0
  clear hgo0
  obtain ⟨h8, hokc⟩ := okLits_iff.1 hc
  obtain ⟨h8d, hokd⟩ := okLits_iff.1 hd
  obtain ⟨ad, cap, rfl⟩ := hu.form
  obtain ⟨ad2, cap2, rfl⟩ := hx.form
  obtain ⟨⟨i0, i1⟩, hs1⟩ := litOk_iff.1 h1
  obtain ⟨⟨j0, j1⟩, hs2⟩ := litOk_iff.1 h2
  obtain ⟨k1, rfl⟩ : ∃ k : Nat, wi = (k : Int) := ⟨wi.toNat, by omega⟩
  obtain ⟨k2, rfl⟩ : ∃ k : Nat, wj = (k : Int) := ⟨wj.toNat, by omega⟩
  have hk1 : k1 < c.length := by omega
  have hk2 : k2 < d.length := by omega
  have hk1I : (k1 : Int) < c.length := by omega
  have hk2I : (k2 : Int) < d.length := by omega
  rw [Int.toNat_natCast] at hp1
  have eU0 : ∀ wa, supU d ((k1 : Int), ws, (k2 : Int), wo, wa) = sideL (d.getD k2 lt0) wo := fun wa => by unfold supU; dsimp only; rw [Int.toNat_natCast]
  rw [eU0] at h4 h5
  have hb0 : 0 ≤ wa ∧ wa ≤ ((sideL (d.getD k2 lt0) wo).length : Int) - 1 := by unfold inB at h4; simpa using h4
  obtain ⟨ka, rfl⟩ : ∃ k : Nat, wa = (k : Int) := ⟨wa.toNat, by omega⟩
  have hka : ka < (sideL (d.getD k2 lt0) wo).length := by omega
  have B2 : Bel w ((w.alloc (.cells #[v] 33)).alloc (.cells #[.int .i64 k1, .int .i64 ws, .int .i64 k2, .int .i64 wo, .int .i64 ka] 36)) := Bel.alloc2 _ _ _
  obtain ⟨b, off, u1, u2, rfl, hbs, c1, c2, c3, s1, s2⟩ := hu.at (Bel.rfl' w) k1 hk1
  obtain ⟨bd, offd, p1, p2, rfl, hbsd, d1, d2, d3, r1, r2⟩ := hx.at (Bel.rfl' w) k2 hk2
  rw [hp1] at c1
  obtain ⟨z1, z2, hz, t1, t2⟩ := sides_x hs1 s1 s2
  obtain ⟨x1, x2, hxz, t5, t6⟩ := sides_x hs2 r1 r2
  have hok1 := okLit_iff.2 (okLits_get hokc k1 hk1)
  have hok2 := okLit_iff.2 (okLits_get hokd k2 hk2)
  have hLok := sideL_ok hok1 ws
  have hRok := sideR_ok hok1 ws
  have hUok := sideL_ok hok2 wo
  have hVok := sideR_ok hok2 wo
  have eL : facL c ((k1 : Int), ws, (k2 : Int), wo, (ka : Int)) = sideL (c.getD k1 lt0) ws := by unfold facL; dsimp only; rw [Int.toNat_natCast]
  have eR : facR c ((k1 : Int), ws, (k2 : Int), wo, (ka : Int)) = sideR (c.getD k1 lt0) ws := by unfold facR; dsimp only; rw [Int.toNat_natCast]
  have eU : supU d ((k1 : Int), ws, (k2 : Int), wo, (ka : Int)) = sideL (d.getD k2 lt0) wo := eU0 _
  have eV : supV d ((k1 : Int), ws, (k2 : Int), wo, (ka : Int)) = sideR (d.getD k2 lt0) wo := by unfold supV; dsimp only; rw [Int.toNat_natCast]
  have HF := Lib.hid (fun (w' : World) (hb : Bel ((w.alloc (.cells #[v] 33)).alloc (.cells #[.int .i64 k1, .int .i64 ws, .int .i64 k2, .int .i64 wo, .int .i64 ka] 36)) w') => (⟨boxc hb.of_alloc 0 _ rfl, hb.at (by simp) (by simp [go_sem]), hb.at (by simp) (by simp [go_sem]), hb.at (by simp) (by simp [go_sem]), hb.at (by simp) (by simp [go_sem]), hb.at (by simp) (by simp [go_sem]), hb.at (by simp; omega) (B2.at hbs c1), hb.at (by simp; omega) (B2.at hbs c2), hb.at (by simp; omega) (B2.at hbs c3), hb.at (by simp; omega) (B2.at hbsd d1), hb.at (by simp; omega) (B2.at hbsd d2), hb.at (by simp; omega) (B2.at hbsd d3)⟩ : (w'.cell? ⟨w.heap.size, 0, none⟩ = some v ∧ w'.cell? ⟨w.heap.size + 1, 0, none⟩ = some (.int .i64 k1) ∧ w'.cell? ⟨w.heap.size + 1, 1, none⟩ = some (.int .i64 ws) ∧ w'.cell? ⟨w.heap.size + 1, 2, none⟩ = some (.int .i64 k2) ∧ w'.cell? ⟨w.heap.size + 1, 3, none⟩ = some (.int .i64 wo) ∧ w'.cell? ⟨w.heap.size + 1, 4, none⟩ = some (.int .i64 ka) ∧ w'.cell? ⟨b, off + k1 * 3, none⟩ = some (.bool true) ∧ w'.cell? ⟨b, off + k1 * 3 + 1, none⟩ = some u1 ∧ w'.cell? ⟨b, off + k1 * 3 + 2, none⟩ = some u2 ∧ w'.cell? ⟨bd, offd + k2 * 3, none⟩ = some (.bool (d.getD k2 lt0).1) ∧ w'.cell? ⟨bd, offd + k2 * 3 + 1, none⟩ = some p1 ∧ w'.cell? ⟨bd, offd + k2 * 3 + 2, none⟩ = some p2)))
  clear c1 c2 c3 d1 d2 d3 h1 h2 h4 h5 hok1 hok2 hb0 eU0
  obtain ⟨a1, e1, f1⟩ := s1.form
  obtain ⟨a2, e2, f2⟩ := s2.form
  obtain ⟨a3, e3, f3⟩ := r1.form
  obtain ⟨a4, e4, f4⟩ := r2.form
  subst f1 f2 f3 f4
  have E1 := tvV_of (p := true) hz
  have E2 := tvV_of (p := (d.getD k2 lt0).1) hxz
  have HTT := Lib.hid (And.intro hs1 hs2)
  clear hz hxz s1 s2 r1 r2
  generalize hP0 : (d.getD k2 lt0).1 = pd at *
  generalize (c.getD k1 lt0).2.1.length = N1 at *
  generalize (c.getD k1 lt0).2.2.length = N2 at *
  generalize (d.getD k2 lt0).2.1.length = N5 at *
  generalize (d.getD k2 lt0).2.2.length = N6 at *
  generalize hL0 : sideL (c.getD k1 lt0) ws = L at *
  generalize hR0 : sideR (c.getD k1 lt0) ws = Rr at *
  generalize hUE : sideL (d.getD k2 lt0) wo = U at *
  generalize hVE : sideR (d.getD k2 lt0) wo = V at *
  have HL0 := Lib.hid (And.intro (And.intro hL0 hR0) (And.intro hUE hVE))
  clear hL0 hR0 hUE hVE
  obtain ⟨zb1, zm1, zd1⟩ := z1
  obtain ⟨zb2, zm2, zd2⟩ := z2
  obtain ⟨xb1, xm1, xd1⟩ := x1
  obtain ⟨xb2, xm2, xd2⟩ := x2
  simp only [encS] at E1 E2 t1 t2 t5 t6
  have E1 := Lib.hid E1
  have E2 := Lib.hid E2
  have BD0 := Bel.drew0 ((w.alloc (.cells #[v] 33)).alloc (.cells #[.int .i64 k1, .int .i64 ws, .int .i64 k2, .int .i64 wo, .int .i64 ka] 36))
  go_enter Tryz.func59, Tryz.ntmps59
  go_wp2_with fail
  have HF3 := Lib.hid (fun (w' : World) (hb : Bel ((w.alloc (.cells #[v] 33)).alloc (.cells #[.int .i64 k1, .int .i64 ws, .int .i64 k2, .int .i64 wo, .int .i64 ka] 36)) w') => (fun h : _ ∧ _ ∧ _ ∧ _ ∧ _ ∧ _ ∧ _ ∧ _ ∧ _ ∧ _ ∧ _ ∧ _ => ⟨h.2.1, h.2.2.1, h.2.2.2.1, h.2.2.2.2.1, h.2.2.2.2.2.2⟩ : _ → (w'.cell? ⟨w.heap.size + 1, 0, none⟩ = some (.int .i64 k1) ∧ w'.cell? ⟨w.heap.size + 1, 1, none⟩ = some (.int .i64 ws) ∧ w'.cell? ⟨w.heap.size + 1, 2, none⟩ = some (.int .i64 k2) ∧ w'.cell? ⟨w.heap.size + 1, 3, none⟩ = some (.int .i64 wo) ∧ w'.cell? ⟨b, off + k1 * 3, none⟩ = some (.bool true) ∧ w'.cell? ⟨b, off + k1 * 3 + 1, none⟩ = some (.slice a1 N1 e1) ∧ w'.cell? ⟨b, off + k1 * 3 + 2, none⟩ = some (.slice a2 N2 e2) ∧ w'.cell? ⟨bd, offd + k2 * 3, none⟩ = some (.bool pd) ∧ w'.cell? ⟨bd, offd + k2 * 3 + 1, none⟩ = some (.slice a3 N5 e3) ∧ w'.cell? ⟨bd, offd + k2 * 3 + 2, none⟩ = some (.slice a4 N6 e4))) (HF.out _ hb))
  have EZ2 : Hid (((w.alloc (.cells #[v] 33)).alloc (.cells #[.int .i64 k1, .int .i64 ws, .int .i64 k2, .int .i64 wo, .int .i64 ka] 36)).heap.size = w.heap.size + 2) := by show _ = _; simp
  have EZ3 : Hid ((((w.alloc (.cells #[v] 33)).alloc (.cells #[.int .i64 k1, .int .i64 ws, .int .i64 k2, .int .i64 wo, .int .i64 ka] 36)).alloc (.cells #[.bool false, .slice none 0 0, .slice none 0 0] 67)).heap.size = w.heap.size + 3) := by show _ = _; simp
  have EZa : Hid (∀ (wa : World), (wa.alloc (.cells #[.bool false, .slice none 0 0, .slice none 0 0] 67)).heap.size = wa.heap.size + 1) := Lib.hid (fun wa => by simp)
  go_upto_region 2 with fail
  go_cut [10, 11] (fun s t wx => ∃ g1 g2, s = .pointer (some ⟨g1, 0, none⟩) ∧ t = .pointer (some ⟨g2, 0, none⟩) ∧ g1 ≠ g2 ∧ w.heap.size + 2 ≤ g1 ∧ w.heap.size + 2 ≤ g2 ∧ g1 < wx.heap.size ∧ g2 < wx.heap.size ∧ (wx.cell? ⟨g1, 0, none⟩ = some (.bool true) ∧ wx.cell? ⟨g1, 1, none⟩ = some (.slice zb1 zm1 zd1) ∧ wx.cell? ⟨g1, 2, none⟩ = some (.slice zb2 zm2 zd2)) ∧ (wx.cell? ⟨g2, 0, none⟩ = some (.bool pd) ∧ wx.cell? ⟨g2, 1, none⟩ = some (.slice xb1 xm1 xd1) ∧ wx.cell? ⟨g2, 2, none⟩ = some (.slice xb2 xm2 xd2)) ∧ (∀ i, wx.frozen? ⟨g2, i, none⟩ = false) ∧ Bel ((w.alloc (.cells #[v] 33)).alloc (.cells #[.int .i64 k1, .int .i64 ws, .int .i64 k2, .int .i64 wo, .int .i64 ka] 36)) wx)
  case first =>
    clear hv hu hx t1 t2 t5 t6 hokc hokd hLok hRok hUok hVok HL0 eL eR eU eV hin hc hd hg ha hT hgo hka hp1 hP0 i0 i1 j0 j1 h8 h8d hs1 hs2 HF
    have HBD := HF3.out _ BD0
    go_wp2_with fail
    refine wp_region_held_drew (S := (fun w' => w'.cell? ⟨w.heap.size + 1, 0, none⟩ = some (.int .i64 k1) ∧ w'.cell? ⟨w.heap.size + 1, 1, none⟩ = some (.int .i64 ws) ∧ w'.cell? ⟨w.heap.size + 1, 2, none⟩ = some (.int .i64 k2) ∧ w'.cell? ⟨w.heap.size + 1, 3, none⟩ = some (.int .i64 wo) ∧ w'.cell? ⟨b, off + k1 * 3, none⟩ = some (.bool true) ∧ w'.cell? ⟨b, off + k1 * 3 + 1, none⟩ = some (.slice a1 N1 e1) ∧ w'.cell? ⟨b, off + k1 * 3 + 2, none⟩ = some (.slice a2 N2 e2) ∧ w'.cell? ⟨bd, offd + k2 * 3, none⟩ = some (.bool pd) ∧ w'.cell? ⟨bd, offd + k2 * 3 + 1, none⟩ = some (.slice a3 N5 e3) ∧ w'.cell? ⟨bd, offd + k2 * 3 + 2, none⟩ = some (.slice a4 N6 e4))) (by kernel_rfl) HBD (fun _ => ?_)
    change wpAnyH _ _ _ _ _ 20 #[false, false, false, false, false, false, false, false, false, false, false, false, false, false, false, false, false, false, false, false] _ _
    refine wpAnyH_take (i := 0) (oi := ⟨_, _, _, _, _, _⟩) (v := ?v0) rfl (by kernel_rfl) (by kernel_rfl) (by kernel_rfl) (fun _ _ _ h => h) (Or.inl ⟨by rfl, ?hy0⟩) HBD ?rest0
    case hy0 =>
      intro w' hSw
      obtain ⟨y1, y2, y3, y4, y5, y6, y7, y8, y9, y10⟩ := hSw
      go_simp
      try with_reducible rfl
    try simp only [Act.put, List.setIfInBounds_toArray, List.set_cons_zero, List.set_cons_succ]
    refine wpAnyH_take (i := 1) (oi := ⟨_, _, _, _, _, _⟩) (v := ?v1) rfl (by kernel_rfl) (by kernel_rfl) (by kernel_rfl) (fun _ _ _ h => h) (Or.inl ⟨by rfl, ?hy1⟩) HBD ?rest1
    case hy1 =>
      intro w' hSw
      obtain ⟨y1, y2, y3, y4, y5, y6, y7, y8, y9, y10⟩ := hSw
      go_simp
      try with_reducible rfl
    try simp only [Act.put, List.setIfInBounds_toArray, List.set_cons_zero, List.set_cons_succ]
    refine wpAnyH_take (i := 2) (oi := ⟨_, _, _, _, _, _⟩) (v := ?v2) rfl (by kernel_rfl) (by kernel_rfl) (by kernel_rfl) (fun _ _ _ h => h) (Or.inl ⟨by rfl, ?hy2⟩) HBD ?rest2
    case hy2 =>
      intro w' hSw
      obtain ⟨y1, y2, y3, y4, y5, y6, y7, y8, y9, y10⟩ := hSw
      go_simp
      try with_reducible rfl
    try simp only [Act.put, List.setIfInBounds_toArray, List.set_cons_zero, List.set_cons_succ]
    refine wpAnyH_take (i := 3) (oi := ⟨_, _, _, _, _, _⟩) (v := ?v3) rfl (by kernel_rfl) (by kernel_rfl) (by kernel_rfl) (fun _ _ _ h => h) (Or.inl ⟨by rfl, ?hy3⟩) HBD ?rest3
    case hy3 =>
      intro w' hSw
      obtain ⟨y1, y2, y3, y4, y5, y6, y7, y8, y9, y10⟩ := hSw
      go_simp
      try with_reducible rfl
    try simp only [Act.put, List.setIfInBounds_toArray, List.set_cons_zero, List.set_cons_succ]
    refine wpAnyH_take (i := 4) (oi := ⟨_, _, _, _, _, _⟩) (v := ?v4) rfl (by kernel_rfl) (by kernel_rfl) (by kernel_rfl) (fun _ _ _ h => h) (Or.inl ⟨by rfl, ?hy4⟩) HBD ?rest4
    case hy4 =>
      intro w' hSw
      obtain ⟨y1, y2, y3, y4, y5, y6, y7, y8, y9, y10⟩ := hSw
      go_simp
      try with_reducible rfl
    try simp only [Act.put, List.setIfInBounds_toArray, List.set_cons_zero, List.set_cons_succ]
    refine wpAnyH_take (i := 5) (oi := ⟨_, _, _, _, _, _⟩) (v := ?v5) rfl (by kernel_rfl) (by kernel_rfl) (by kernel_rfl) (fun _ _ _ h => h) (Or.inl ⟨by rfl, ?hy5⟩) HBD ?rest5
    case hy5 =>
      intro w' hSw
      obtain ⟨y1, y2, y3, y4, y5, y6, y7, y8, y9, y10⟩ := hSw
      go_simp
      try with_reducible rfl
    try simp only [Act.put, List.setIfInBounds_toArray, List.set_cons_zero, List.set_cons_succ]
    refine wpAnyH_take (i := 6) (oi := ⟨_, _, _, _, _, _⟩) (v := ?v6) rfl (by kernel_rfl) (by kernel_rfl) (by kernel_rfl) (fun _ _ _ h => h) (Or.inl ⟨by rfl, ?hy6⟩) HBD ?rest6
    case hy6 =>
      intro w' hSw
      obtain ⟨y1, y2, y3, y4, y5, y6, y7, y8, y9, y10⟩ := hSw
      go_simp
      try with_reducible rfl
    try simp only [Act.put, List.setIfInBounds_toArray, List.set_cons_zero, List.set_cons_succ]
    refine wpAnyH_take (i := 8) (oi := ⟨_, _, _, _, _, _⟩) (v := ?v8) rfl (by kernel_rfl) (by kernel_rfl) (by kernel_rfl) (fun _ _ _ h => h) (Or.inl ⟨by rfl, ?hy8⟩) HBD ?rest8
    case hy8 =>
      intro w' hSw
      obtain ⟨y1, y2, y3, y4, y5, y6, y7, y8, y9, y10⟩ := hSw
      go_simp
      try with_reducible rfl
    try simp only [Act.put, List.setIfInBounds_toArray, List.set_cons_zero, List.set_cons_succ]
    refine wpAnyH_take (i := 9) (oi := ⟨_, _, _, _, _, _⟩) (v := ?v9) rfl (by kernel_rfl) (by kernel_rfl) (by kernel_rfl) (fun _ _ _ h => h) (Or.inl ⟨by rfl, ?hy9⟩) HBD ?rest9
    case hy9 =>
      intro w' hSw
      obtain ⟨y1, y2, y3, y4, y5, y6, y7, y8, y9, y10⟩ := hSw
      go_simp
      try with_reducible rfl
    try simp only [Act.put, List.setIfInBounds_toArray, List.set_cons_zero, List.set_cons_succ]
    refine wpAnyH_take (i := 10) (oi := ⟨_, _, _, _, _, _⟩) (v := ?v10) rfl (by kernel_rfl) (by kernel_rfl) (by kernel_rfl) (fun _ _ _ h => h) (Or.inl ⟨by rfl, ?hy10⟩) HBD ?rest10
    case hy10 =>
      intro w' hSw
      obtain ⟨y1, y2, y3, y4, y5, y6, y7, y8, y9, y10⟩ := hSw
      go_simp
      try with_reducible rfl
    try simp only [Act.put, List.setIfInBounds_toArray, List.set_cons_zero, List.set_cons_succ]
    refine wpAnyH_take (i := 11) (oi := ⟨_, _, _, _, _, _⟩) (v := ?v11) rfl (by kernel_rfl) (by kernel_rfl) (by kernel_rfl) (fun _ _ _ h => h) (Or.inl ⟨by rfl, ?hy11⟩) HBD ?rest11
    case hy11 =>
      intro w' hSw
      obtain ⟨y1, y2, y3, y4, y5, y6, y7, y8, y9, y10⟩ := hSw
      go_simp
      try with_reducible rfl
    try simp only [Act.put, List.setIfInBounds_toArray, List.set_cons_zero, List.set_cons_succ]
    refine wpAnyH_take (i := 12) (oi := ⟨_, _, _, _, _, _⟩) (v := ?v12) rfl (by kernel_rfl) (by kernel_rfl) (by kernel_rfl) (fun _ _ _ h => h) (Or.inl ⟨by rfl, ?hy12⟩) HBD ?rest12
    case hy12 =>
      intro w' hSw
      obtain ⟨y1, y2, y3, y4, y5, y6, y7, y8, y9, y10⟩ := hSw
      go_simp
      try with_reducible rfl
    try simp only [Act.put, List.setIfInBounds_toArray, List.set_cons_zero, List.set_cons_succ]
    refine wpAnyH_take (i := 13) (oi := ⟨_, _, _, _, _, _⟩) (v := ?v13) rfl (by kernel_rfl) (by kernel_rfl) (by kernel_rfl) (fun _ _ _ h => h) (Or.inl ⟨by rfl, ?hy13⟩) HBD ?rest13
    case hy13 =>
      intro w' hSw
      obtain ⟨y1, y2, y3, y4, y5, y6, y7, y8, y9, y10⟩ := hSw
      go_simp
      try with_reducible rfl
    try simp only [Act.put, List.setIfInBounds_toArray, List.set_cons_zero, List.set_cons_succ]
    refine wpAnyH_take (i := 14) (oi := ⟨_, _, _, _, _, _⟩) (v := ?v14) rfl (by kernel_rfl) (by kernel_rfl) (by kernel_rfl) (fun _ _ _ h => h) (Or.inl ⟨by rfl, ?hy14⟩) HBD ?rest14
    case hy14 =>
      intro w' hSw
      obtain ⟨y1, y2, y3, y4, y5, y6, y7, y8, y9, y10⟩ := hSw
      go_simp
      try with_reducible rfl
    try simp only [Act.put, List.setIfInBounds_toArray, List.set_cons_zero, List.set_cons_succ]
    change wpAnyH _ _ _ _ _ 6 #[true, true, true, true, true, true, true, false, true, true, true, true, true, true, true, false, false, false, false, false] _ _
    refine Ru.region_go (A := tvV true a1 N1 e1 a2 N2 e2 ws) (B := tvV pd a3 N5 e3 a4 N6 e4 wo) (Ru.Reg.mk ?rn ?r7 ?r15 ?r16 ?r17 ?rc7 ?rc15 ?rrd) (fun wq hq => HF3.out _ (BD0.step hq)) ?rt
    case rn => exact Nat.le_of_ble_eq_true (by kernel_rfl)
    case r7 => exact ⟨_, rfl, rfl, rfl, rfl⟩
    case r15 => exact ⟨_, rfl, rfl, rfl, rfl⟩
    case r16 => exact ⟨_, rfl, rfl, rfl, rfl⟩
    case r17 => exact ⟨_, rfl, rfl, rfl, rfl⟩
    case rrd => kernel_rfl
    case rc7 => exact fun w9 => turned_u true a1 N1 e1 a2 N2 e2 ws w9 HTT.out.1
    case rc15 => exact fun w9 => turned_u pd a3 N5 e3 a4 N6 e4 wo w9 HTT.out.2
    case rt =>
    intro g1 g2 wx hbx z1 z2 l1 l2 ne
    have hbx := BD0.step hbx
    rw [E1.out, E2.out]
    simp only [Ru.puts, List.setIfInBounds_toArray, List.set_cons_zero, List.set_cons_succ, Ru.pt]
    have hZ := z1
    have hZ2 := z2
    obtain ⟨⟨q0, q1, q2⟩, q3⟩ := z1
    obtain ⟨⟨r0, r1, r2⟩, r3⟩ := z2
    have ne' := Ne.symm ne
    have gl1 := hZ.lt
    have gl2 := hZ2.lt
    refine wpAnyH_ready (rs := [18]) (by kernel_rfl) (by simp) ?_
    refine AllReadyH.cons rfl (fun K hK => ?_) AllReadyH.nil
    go_simp
    have hl1 : ((w.alloc (.cells #[v] 33)).alloc (.cells #[.int .i64 k1, .int .i64 ws, .int .i64 k2, .int .i64 wo, .int .i64 ka] 36)).heap.size ≤ g1 := l1
    have hl2 : ((w.alloc (.cells #[v] 33)).alloc (.cells #[.int .i64 k1, .int .i64 ws, .int .i64 k2, .int .i64 wo, .int .i64 ka] 36)).heap.size ≤ g2 := l2
    have hby := ((hbx.set (p := ⟨g1, 0, none⟩) hl1 (.bool true)).set (p := ⟨g1, 1, none⟩) hl1 (.slice zb1 zm1 zd1)).set (p := ⟨g1, 2, none⟩) hl1 (.slice zb2 zm2 zd2)
    have L1 := hZ.lb.put (.bool true) (.slice zb1 zm1 zd1) (.slice zb2 zm2 zd2)
    have L2 := ((hZ2.lb.far ne' 0 (.bool true)).far ne' 1 (.slice zb1 zm1 zd1)).far ne' 2 (.slice zb2 zm2 zd2)
    clear hZ hZ2 q0 q1 q2 q3 r0 r1 r2 r3 gl1 gl2 hbx
    generalize (((wx.setCell ⟨g1, 0, none⟩ (.bool true)).setCell ⟨g1, 1, none⟩ (.slice zb1 zm1 zd1)).setCell ⟨g1, 2, none⟩ (.slice zb2 zm2 zd2)) = wy at *
    refine hK.out _ _ (HF3.out _ hby) (fun _ => ?_)
    clear hK K
    have gl2 := L2.lt
    have hL2 := L2
    obtain ⟨⟨r0, r1, r2⟩, r3⟩ := L2
    refine wpAnyH_ready (rs := [19]) (by kernel_rfl) (by simp) ?_
    refine AllReadyH.cons rfl (fun K hK => ?_) AllReadyH.nil
    go_simp
    have hbz := ((hby.set (p := ⟨g2, 0, none⟩) hl2 (.bool pd)).set (p := ⟨g2, 1, none⟩) hl2 (.slice xb1 xm1 xd1)).set (p := ⟨g2, 2, none⟩) hl2 (.slice xb2 xm2 xd2)
    have M2 := hL2.put (.bool pd) (.slice xb1 xm1 xd1) (.slice xb2 xm2 xd2)
    have M1 := ((L1.far ne 0 (.bool pd)).far ne 1 (.slice xb1 xm1 xd1)).far ne 2 (.slice xb2 xm2 xd2)
    clear hL2 r0 r1 r2 r3 gl2 L1 hby
    generalize (((wy.setCell ⟨g2, 0, none⟩ (.bool pd)).setCell ⟨g2, 1, none⟩ (.slice xb1 xm1 xd1)).setCell ⟨g2, 2, none⟩ (.slice xb2 xm2 xd2)) = wz at *
    refine hK.out _ _ (HF3.out _ hbz) (fun _ => ?_)
    clear hK K
    refine wpAnyH_done (by kernel_rfl) ?_ _
    go_wp2_with fail
    go_meet
    exact ⟨g1, g2, rfl, rfl, ne, by simpa using l1, by simpa using l2, M1.lt, M2.lt, M1.1, M2.1, M2.2, hbz⟩
  case rest =>
  obtain ⟨g1, g2, rfl, rfl, ne, lg1, lg2, gl1, gl2, M1, M2, fz, HB⟩ := hcut
  clear BD0
  obtain rfl := t1.slen
  obtain rfl := t2.slen
  obtain rfl := t5.slen
  obtain rfl := t6.slen
  have hU2 := (okTerm_len hUok).2
  have hL2 := (okTerm_len hLok).2
  have hask : askOk ar U ka = true := by
    unfold askOk goodTerm inB
    rw [hg, hUok, decide_eq_true (show (0:Int) ≤ ka by omega), decide_eq_true (show (ka : Int) ≤ (U.length : Int) - 1 by omega)]; rfl
  obtain ⟨ka', q, eka, -, hend, hq1, hq2, hU40, -, -⟩ := ask_yes hask
  obtain rfl : ka' = ka := by omega
  clear eka hask
  have hPok : okTerm ar (partOf U ka' q) = true := partOf_ok ar U ka' q hUok hka hend
  have eAt : supAt ar d ((k1 : Int), ws, (k2 : Int), wo, (ka' : Int)) = partOf U ka' q := by unfold supAt; rw [eU]; dsimp only; rw [Int.toNat_natCast, hend]; rfl
  have eRp : replIn ar U (ka' : Int) Rr = replaced U ka' q Rr := replIn_eq hend
  have BW := B2.step HB
  obtain ⟨m1, m2, m3, m4, m5, m6, m7, m8, m9, m10, m11, m12⟩ := HF.out _ HB
  obtain ⟨n0, n1, n2⟩ := M1
  obtain ⟨o0, o1, o2⟩ := M2
  have hPl := (okTerm_len hPok).2
  have hq3 : (ka' : Int) ≤ q := by omega
  have hq4 : (q : Int) ≤ U.length := by omega
  have hU8 : U.length ≤ 1048576 := by omega
  have hcutU : Hid (∀ w', Bel w w' → SlI 0 w'.heap.size w' (.slice xb1 U.length xd1) U) := Lib.hid (fun w' hb => (t5.below hb).in')
  obtain ⟨xbb, xbo, xbc, exb, hxc⟩ := t5.plain (by omega)
  simp only [Value.slice.injEq] at exb
  obtain ⟨rfl, -, rfl⟩ := exb
  have hPc : Hid (∀ w', Bel w w' → SlI 0 w'.heap.size w' (.slice (some ⟨xbb, xbo + ka', none⟩) (q - ka') (xd1 - ka')) (partOf U ka' q)) := Lib.hid (fun w' hb => ((t5.below hb).cut ka' q (by omega) (by omega)).in')
  have hTE := Lib.hid (fun (w' : World) (hb : Bel w w') => termEnd_v _ _ _ _ v _ ar U ka' q w' hend hg hU8 (by omega) (hv.below hb) (hcutU.out w' hb))
  have hkaI : (ka' : Int) < U.length := by omega
  have hq5 : (U.length : Int) ≤ xd1 := by omega
  have hq6 : (q : Int) ≤ xd1 := by omega
  have hq7 : (ka' : Int) < q := by omega
  have hq8 : ¬ xd1 = ka' := by omega
  go_wp2_with fail
  refine (hTE.out _ BW).mono ?_; rintro e w1 ⟨rfl, hb1⟩
  clear hTE
  have HB1 := HB.step hb1
  have BW1 := B2.step HB1
  have gg1 := Nat.lt_of_lt_of_le gl1 hb1.size
  have gg2 := Nat.lt_of_lt_of_le gl2 hb1.size
  have hbd := Bel.drew0 w1
  have HFB := HF.out _ (HB1.step hbd)
  have HM1 := Lib.hid (fun (w' : World) (hb : Bel wc w') => (⟨hb.at gl1 n0, hb.at gl1 n1, hb.at gl1 n2⟩ : w'.cell? ⟨g1, 0, none⟩ = some (.bool true) ∧ w'.cell? ⟨g1, 1, none⟩ = some (.slice zb1 L.length zd1) ∧ w'.cell? ⟨g1, 2, none⟩ = some (.slice zb2 Rr.length zd2)))
  have HM2 := Lib.hid (fun (w' : World) (hb : Bel wc w') => (⟨hb.at gl2 o0, hb.at gl2 o1, hb.at gl2 o2, fun i => (hb.frozen (p := ⟨g2, i, none⟩) gl2).trans (fz i)⟩ : w'.cell? ⟨g2, 0, none⟩ = some (.bool pd) ∧ w'.cell? ⟨g2, 1, none⟩ = some (.slice (some ⟨xbb, xbo, none⟩) U.length xd1) ∧ w'.cell? ⟨g2, 2, none⟩ = some (.slice xb2 V.length xd2) ∧ ∀ i, w'.frozen? ⟨g2, i, none⟩ = false))
  clear m1 m2 m3 m4 m5 m6 m7 m8 m9 m10 m11 m12 n0 n1 n2 o0 o1 o2
  obtain ⟨r0, -, -, -, -, r5, -⟩ := HFB
  obtain ⟨-, r1, -⟩ := HM1.out _ (hb1.step hbd)
  obtain ⟨-, r2, -⟩ := HM2.out _ (hb1.step hbd)
  have hUN := Lib.hid (fun (w' : World) (hb : Bel w w') => iUnify_t (w := w') ha (hv.below hb) (by omega) (t1.below hb) (by omega) (hPc.out w' hb))
  have BW1d := BW1.step hbd
  generalize hKK : unifyOk ar L (partOf U ka' q) = KK at *
  generalize hXX : unifyAns ar L (partOf U ka' q) = XX at *
  have HKX := Lib.hid (And.intro hKK hXX)
  clear hKK hXX
  go_wp2_with fail
  go_region_held3 (fun w' => w'.cell? ⟨w.heap.size, 0, none⟩ = some v ∧ w'.cell? ⟨w.heap.size + 1, 4, none⟩ = some (.int .i64 ka') ∧ w'.cell? ⟨g1, 1, none⟩ = some (.slice zb1 L.length zd1) ∧ w'.cell? ⟨g2, 1, none⟩ = some (.slice (some ⟨xbb, xbo, none⟩) U.length xd1))
    (first | exact ⟨r0, r5, r1, r2⟩ | exact ⟨(HF.out _ ((HB1.step hbd).step hb2)).1, (HF.out _ ((HB1.step hbd).step hb2)).2.2.2.2.2.1, (HM1.out _ ((hb1.step hbd).step hb2)).2.1, (HM2.out _ ((hb1.step hbd).step hb2)).2.1⟩ | fail)
    (first | (go_at_call 113; refine (hUN.out _ BW1d).mono ?_; rintro e w2 ⟨ua, un, uc, rfl, ho2, hb2⟩) | fail)
  have HB2 := (HB1.step hbd).step hb2
  have BW2 := B2.step HB2
  have WB2 := (hb1.step hbd).step hb2
  clear hUN r0 r1 r2 r5
  cases KK with
  | false =>
    have hRN : (([] : List Lt), (3 : Int)) = (r, n) := by rw [← hgo.out, supE_apart (by rw [eL, eAt]; exact HKX.out.1)]
    simp only [Prod.mk.injEq] at hRN
    obtain ⟨rfl, rfl⟩ := hRN
    go_wp2_with fail
    go_ret2
    exact ⟨_, _, _, rfl, SlC.nil _ _ _, BW2⟩
  | true =>
    have lg2' : ((w.alloc (.cells #[v] 33)).alloc (.cells #[.int .i64 k1, .int .i64 ws, .int .i64 k2, .int .i64 wo, .int .i64 ka'] 36)).heap.size ≤ g2 := by simpa using lg2
    have hRr := (okTerm_len hRok).2
    have hsum : (U.take ka').length + Rr.length + (U.drop q).length ≤ 1099511627776 := by simp; omega
    have hfl : Hid (U.take ka' ++ Rr ++ U.drop q = replaced U ka' q Rr) := rfl
    generalize hRPe : replaced U ka' q Rr = RP at *
    have HRP := Lib.hid hRPe
    clear hRPe
    have hTk : Hid (∀ w', Bel w w' → SlI 0 w'.heap.size w' (.slice (some ⟨xbb, xbo, none⟩) ka' xd1) (U.take ka')) := Lib.hid (fun w' hb => by
      have := ((t5.below hb).cut 0 ka' (by omega) (by omega)).in'; simpa using this)
    have hTR : Hid (∀ w', Bel w w' → SlI 0 w'.heap.size w' (.slice zb2 Rr.length zd2) Rr) := Lib.hid (fun w' hb => (t2.below hb).in')
    have HSS := Lib.hid (fun (w' : World) (hb : Bel w2 w') => (⟨(HF.out _ (HB2.step hb)).2.2.2.2.2.1, (HM1.out _ (WB2.step hb)).2.2⟩ : w'.cell? ⟨w.heap.size + 1, 4, none⟩ = some (.int .i64 ka') ∧ w'.cell? ⟨g1, 2, none⟩ = some (.slice zb2 Rr.length zd2)))
    have hTT : (xd1 = q ∧ Hid (∀ w', Bel w w' → SlI 0 w'.heap.size w' (.slice (some ⟨xbb, xbo, none⟩) 0 0) (U.drop q))) ∨ (q < xd1 ∧ Hid (∀ w', Bel w w' → SlI 0 w'.heap.size w' (.slice (some ⟨xbb, xbo + q, none⟩) (U.length - q) (xd1 - q)) (U.drop q))) := by
      rcases Nat.lt_or_ge q xd1 with h | h
      · refine .inr ⟨h, fun w' hb => ?_⟩
        have := (t5.below hb).cut q U.length (by omega) (by omega)
        rw [List.take_of_length_le (by simp)] at this
        exact this.in'
      · refine .inl ⟨by omega, fun w' hb => ?_⟩
        obtain rfl : U.length = q := by omega
        rw [List.drop_length]
        exact ⟨_, 0, rfl, Nat.le_refl _, ⟨Nat.zero_le _, fun h => by simp at h⟩, fun h => absurd h (by simp)⟩
    have hq9 : (ka' : Int) ≤ xd1 := by omega
    go_upto_region 7 with fail
    go_cut [] (fun wx => ∃ ra rc, wx.cell? ⟨g2, 0, none⟩ = some (.bool pd) ∧ wx.cell? ⟨g2, 1, none⟩ = some (.slice ra RP.length rc) ∧ wx.cell? ⟨g2, 2, none⟩ = some (.slice xb2 V.length xd2) ∧ SlI 0 wx.heap.size wx (.slice ra RP.length rc) RP ∧ SlS 0 wx.heap.size wx (.slice ua un uc) XX ∧ Bel ((w.alloc (.cells #[v] 33)).alloc (.cells #[.int .i64 k1, .int .i64 ws, .int .i64 k2, .int .i64 wo, .int .i64 ka'] 36)) wx)
    case first =>
      rcases hTT with ⟨hqc, hTl⟩ | ⟨hqc, hTl⟩
      · obtain rfl : xd1 = q := hqc
        go_wp2_with fail
        obtain ⟨v0, v1, v2, v3⟩ := HM2.out _ (WB2.step (Bel.drew0 w2))
        refine wp_region_held_drew (S := fun w' => w'.cell? ⟨w.heap.size + 1, 4, none⟩ = some (.int .i64 ka') ∧ w'.cell? ⟨g1, 2, none⟩ = some (.slice zb2 Rr.length zd2)) (by kernel_rfl) (HSS.out _ (Bel.drew0 w2)) (fun hS => ?_)
        change wpAnyH _ _ _ _ _ 15 #[false, false, false, false, false, false, false, false, false, false, false, false, false, false, false] _ _
        refine wpAnyH_take (i := 0) (oi := ⟨_, _, _, _, _, _⟩) (v := ?v0_1) rfl (by kernel_rfl) (by kernel_rfl) (by kernel_rfl) (fun _ _ _ h => h) (Or.inl ⟨by rfl, ?hy0_1⟩) hS ?rest0_1
        case hy0_1 =>
          intro w' hSw
          obtain ⟨y1, y2⟩ := hSw
          go_simp
          try with_reducible rfl
        try simp only [Act.put, List.setIfInBounds_toArray, List.set_cons_zero, List.set_cons_succ]
        refine wpAnyH_take (i := 2) (oi := ⟨_, _, _, _, _, _⟩) (v := ?v2_2) rfl (by kernel_rfl) (by kernel_rfl) (by kernel_rfl) (fun _ _ _ h => h) (Or.inl ⟨by rfl, ?hy2_2⟩) hS ?rest2_2
        case hy2_2 =>
          intro w' hSw
          obtain ⟨y1, y2⟩ := hSw
          go_simp
          try with_reducible rfl
        try simp only [Act.put, List.setIfInBounds_toArray, List.set_cons_zero, List.set_cons_succ]
        refine wpAnyH_take (i := 3) (oi := ⟨_, _, _, _, _, _⟩) (v := ?v3_3) rfl (by kernel_rfl) (by kernel_rfl) (by kernel_rfl) (fun _ _ _ h => h) (Or.inl ⟨by rfl, ?hy3_3⟩) hS ?rest3_3
        case hy3_3 =>
          intro w' hSw
          obtain ⟨y1, y2⟩ := hSw
          go_simp
          try with_reducible rfl
        try simp only [Act.put, List.setIfInBounds_toArray, List.set_cons_zero, List.set_cons_succ]
        refine wpAnyH_take (i := 5) (oi := ⟨_, _, _, _, _, _⟩) (v := ?v5_4) rfl (by kernel_rfl) (by kernel_rfl) (by kernel_rfl) (fun _ _ _ h => h) (Or.inl ⟨by rfl, ?hy5_4⟩) hS ?rest5_4
        case hy5_4 =>
          intro w' hSw
          obtain ⟨y1, y2⟩ := hSw
          go_simp
          try with_reducible rfl
        try simp only [Act.put, List.setIfInBounds_toArray, List.set_cons_zero, List.set_cons_succ]
        refine wpAnyH_take (i := 6) (oi := ⟨_, _, _, _, _, _⟩) (v := ?v6_5) rfl (by kernel_rfl) (by kernel_rfl) (by kernel_rfl) (fun _ _ _ h => h) (Or.inl ⟨by rfl, ?hy6_5⟩) hS ?rest6_5
        case hy6_5 =>
          intro w' hSw
          obtain ⟨y1, y2⟩ := hSw
          go_simp
          try with_reducible rfl
        try simp only [Act.put, List.setIfInBounds_toArray, List.set_cons_zero, List.set_cons_succ]
        refine wpAnyH_take (i := 7) (oi := ⟨_, _, _, _, _, _⟩) (v := ?v7_6) rfl (by kernel_rfl) (by kernel_rfl) (by kernel_rfl) (fun _ _ _ h => h) (Or.inl ⟨by rfl, ?hy7_6⟩) hS ?rest7_6
        case hy7_6 =>
          intro w' hSw
          obtain ⟨y1, y2⟩ := hSw
          go_simp
          try with_reducible rfl
        try simp only [Act.put, List.setIfInBounds_toArray, List.set_cons_zero, List.set_cons_succ]
        refine wpAnyH_take (i := 9) (oi := ⟨_, _, _, _, _, _⟩) (v := ?v9_7) rfl (by kernel_rfl) (by kernel_rfl) (by kernel_rfl) (fun _ _ _ h => h) (Or.inl ⟨by rfl, ?hy9_7⟩) hS ?rest9_7
        case hy9_7 =>
          intro w' hSw
          obtain ⟨y1, y2⟩ := hSw
          go_simp
          try with_reducible rfl
        try simp only [Act.put, List.setIfInBounds_toArray, List.set_cons_zero, List.set_cons_succ]
        change wpAnyH _ _ _ _ _ 8 #[true, false, true, true, false, true, true, true, false, true, false, false, false, false, false] _ _
        refine wpAnyH_ready (rs := [1, 8]) (by kernel_rfl) (by simp) ?_
        refine AllReadyH.cons rfl (fun K hK => ?_) (AllReadyH.cons rfl (fun K hK => ?_) AllReadyH.nil)
        · go_simp
          refine hK.out _ _ hS (fun _ => ?_)
          clear hK K
          try simp only [Act.put, List.setIfInBounds_toArray, List.set_cons_zero, List.set_cons_succ]
          refine wpAnyH_take (i := 4) (oi := ⟨_, _, _, _, _, _⟩) (v := ?v4_8) rfl (by kernel_rfl) (by kernel_rfl) (by kernel_rfl) (fun _ _ _ h => h) (Or.inl ⟨by rfl, ?hy4_8⟩) hS ?rest4_8
          case hy4_8 =>
            intro w' hSw
            obtain ⟨y1, y2⟩ := hSw
            go_simp
            try with_reducible rfl
          try simp only [Act.put, List.setIfInBounds_toArray, List.set_cons_zero, List.set_cons_succ]
          refine wpAnyH_ready (rs := [8]) (by kernel_rfl) (by simp) ?_
          refine AllReadyH.cons rfl (fun K hK => ?_) AllReadyH.nil
          go_simp
          refine hK.out _ _ hS (fun _ => ?_)
          clear hK K
          try simp only [Act.put, List.setIfInBounds_toArray, List.set_cons_zero, List.set_cons_succ]
          refine wpAnyH_take (i := 10) (oi := ⟨_, _, _, _, _, _⟩) (v := ?v10_9) rfl (by kernel_rfl) (by kernel_rfl) (by kernel_rfl) (fun _ _ _ h => h) (Or.inl ⟨by rfl, ?hy10_9⟩) hS ?rest10_9
          case hy10_9 =>
            intro w' hSw
            obtain ⟨y1, y2⟩ := hSw
            go_simp
            try with_reducible rfl
          try simp only [Act.put, List.setIfInBounds_toArray, List.set_cons_zero, List.set_cons_succ]
          try simp only [Act.put, List.setIfInBounds_toArray, List.set_cons_zero, List.set_cons_succ]
          refine wpAnyH_ready (rs := [11]) (by kernel_rfl) (by simp) ?_
          refine AllReadyH.cons rfl (fun K hK => ?_) AllReadyH.nil
          go_simp
          refine hK.out _ _ (HSS.out _ ((Bel.drew0 w2).alloc _)) (fun _ => ?_)
          clear hK K
          refine wpAnyH_ready (rs := [12]) (by kernel_rfl) (by simp) ?_
          refine AllReadyH.cons rfl (fun K hK => ?_) AllReadyH.nil
          go_simp
          go_wp2_with ((go_at_call 114; refine (concat3_c 0 w2.heap.size _ _ _ _ _ _ _ _ _ (U.take ka') Rr (U.drop xd1) w2 hsum (hTk.out _ BW2) (hTR.out _ BW2) (hTl.out _ BW2) _).mono ?_; rintro e w4 ⟨a4, n4, c4, rfl, ho4, hb4⟩))
          have BB4 := hb4.of_drew.of_alloc
          rw [hfl.out] at ho4
          have hn4 := ho4.sl.slen
          subst hn4
          refine hK.out _ _ (HSS.out _ BB4) (fun _ => ?_)
          clear hK K
          obtain ⟨v0, v1, v2, v3⟩ := HM2.out _ (WB2.step BB4)
          have gg4 : g2 < w4.heap.size := World.block_lt_of_cell? w4 ⟨g2, 0, none⟩ v0
          try simp only [Act.put, List.setIfInBounds_toArray, List.set_cons_zero, List.set_cons_succ]
          refine wpAnyH_take (i := 13) (oi := ⟨_, _, _, _, _, _⟩) (v := ?v13_10) rfl (by kernel_rfl) (by kernel_rfl) (by kernel_rfl) (fun _ _ _ h => h) (Or.inl ⟨by rfl, ?hy13_10⟩) (HSS.out _ BB4) ?rest13_10
          case hy13_10 =>
            intro w' hSw
            obtain ⟨y1, y2⟩ := hSw
            go_simp
            try with_reducible rfl
          try simp only [Act.put, List.setIfInBounds_toArray, List.set_cons_zero, List.set_cons_succ]
          refine wpAnyH_ready (rs := [14]) (by kernel_rfl) (by simp) ?_
          refine AllReadyH.cons rfl (fun K hK => ?_) AllReadyH.nil
          go_simp
          have B4 := (HB2.step BB4).set (p := ⟨g2, 1, none⟩) lg2' (.slice a4 RP.length c4)
          have S4 := HSS.out _ BB4
          refine hK.out _ _ ⟨(HF.out _ B4).2.2.2.2.2.1, (World.cell?_setCell_far w4 ⟨g2, 1, none⟩ ⟨g1, 2, none⟩ _ (Ne.symm ne)).trans S4.2⟩ (fun _ => ?_)
          clear hK K
          refine wpAnyH_done (by kernel_rfl) ?_ _
          go_wp2_with fail
          go_meet
          have lo4 : g2 < w2.heap.size := Nat.lt_of_lt_of_le gl2 WB2.size
          refine ⟨a4, c4, by simp [go_sem, v0], by simp [go_sem, v1], by simp [go_sem, v2], ?_, ?_, B4⟩
          · exact (ho4.sl.set (p := ⟨g2, 1, none⟩) (Or.inl (by simp; omega)) _).in'
          · exact ((ho2.sl.below BB4).setU (p := ⟨g2, 1, none⟩) (Or.inl gg2) _).mono (Nat.zero_le _) (by simpa using BB4.size)
        · go_simp
          refine hK.out _ _ hS (fun _ => ?_)
          clear hK K
          try simp only [Act.put, List.setIfInBounds_toArray, List.set_cons_zero, List.set_cons_succ]
          refine wpAnyH_take (i := 10) (oi := ⟨_, _, _, _, _, _⟩) (v := ?v10_11) rfl (by kernel_rfl) (by kernel_rfl) (by kernel_rfl) (fun _ _ _ h => h) (Or.inl ⟨by rfl, ?hy10_11⟩) hS ?rest10_11
          case hy10_11 =>
            intro w' hSw
            obtain ⟨y1, y2⟩ := hSw
            go_simp
            try with_reducible rfl
          try simp only [Act.put, List.setIfInBounds_toArray, List.set_cons_zero, List.set_cons_succ]
          refine wpAnyH_ready (rs := [1]) (by kernel_rfl) (by simp) ?_
          refine AllReadyH.cons rfl (fun K hK => ?_) AllReadyH.nil
          go_simp
          refine hK.out _ _ hS (fun _ => ?_)
          clear hK K
          try simp only [Act.put, List.setIfInBounds_toArray, List.set_cons_zero, List.set_cons_succ]
          refine wpAnyH_take (i := 4) (oi := ⟨_, _, _, _, _, _⟩) (v := ?v4_12) rfl (by kernel_rfl) (by kernel_rfl) (by kernel_rfl) (fun _ _ _ h => h) (Or.inl ⟨by rfl, ?hy4_12⟩) hS ?rest4_12
          case hy4_12 =>
            intro w' hSw
            obtain ⟨y1, y2⟩ := hSw
            go_simp
            try with_reducible rfl
          try simp only [Act.put, List.setIfInBounds_toArray, List.set_cons_zero, List.set_cons_succ]
          try simp only [Act.put, List.setIfInBounds_toArray, List.set_cons_zero, List.set_cons_succ]
          refine wpAnyH_ready (rs := [11]) (by kernel_rfl) (by simp) ?_
          refine AllReadyH.cons rfl (fun K hK => ?_) AllReadyH.nil
          go_simp
          refine hK.out _ _ (HSS.out _ ((Bel.drew0 w2).alloc _)) (fun _ => ?_)
          clear hK K
          refine wpAnyH_ready (rs := [12]) (by kernel_rfl) (by simp) ?_
          refine AllReadyH.cons rfl (fun K hK => ?_) AllReadyH.nil
          go_simp
          go_wp2_with ((go_at_call 114; refine (concat3_c 0 w2.heap.size _ _ _ _ _ _ _ _ _ (U.take ka') Rr (U.drop xd1) w2 hsum (hTk.out _ BW2) (hTR.out _ BW2) (hTl.out _ BW2) _).mono ?_; rintro e w4 ⟨a4, n4, c4, rfl, ho4, hb4⟩))
          have BB4 := hb4.of_drew.of_alloc
          rw [hfl.out] at ho4
          have hn4 := ho4.sl.slen
          subst hn4
          refine hK.out _ _ (HSS.out _ BB4) (fun _ => ?_)
          clear hK K
          obtain ⟨v0, v1, v2, v3⟩ := HM2.out _ (WB2.step BB4)
          have gg4 : g2 < w4.heap.size := World.block_lt_of_cell? w4 ⟨g2, 0, none⟩ v0
          try simp only [Act.put, List.setIfInBounds_toArray, List.set_cons_zero, List.set_cons_succ]
          refine wpAnyH_take (i := 13) (oi := ⟨_, _, _, _, _, _⟩) (v := ?v13_13) rfl (by kernel_rfl) (by kernel_rfl) (by kernel_rfl) (fun _ _ _ h => h) (Or.inl ⟨by rfl, ?hy13_13⟩) (HSS.out _ BB4) ?rest13_13
          case hy13_13 =>
            intro w' hSw
            obtain ⟨y1, y2⟩ := hSw
            go_simp
            try with_reducible rfl
          try simp only [Act.put, List.setIfInBounds_toArray, List.set_cons_zero, List.set_cons_succ]
          refine wpAnyH_ready (rs := [14]) (by kernel_rfl) (by simp) ?_
          refine AllReadyH.cons rfl (fun K hK => ?_) AllReadyH.nil
          go_simp
          have B4 := (HB2.step BB4).set (p := ⟨g2, 1, none⟩) lg2' (.slice a4 RP.length c4)
          have S4 := HSS.out _ BB4
          refine hK.out _ _ ⟨(HF.out _ B4).2.2.2.2.2.1, (World.cell?_setCell_far w4 ⟨g2, 1, none⟩ ⟨g1, 2, none⟩ _ (Ne.symm ne)).trans S4.2⟩ (fun _ => ?_)
          clear hK K
          refine wpAnyH_done (by kernel_rfl) ?_ _
          go_wp2_with fail
          go_meet
          have lo4 : g2 < w2.heap.size := Nat.lt_of_lt_of_le gl2 WB2.size
          refine ⟨a4, c4, by simp [go_sem, v0], by simp [go_sem, v1], by simp [go_sem, v2], ?_, ?_, B4⟩
          · exact (ho4.sl.set (p := ⟨g2, 1, none⟩) (Or.inl (by simp; omega)) _).in'
          · exact ((ho2.sl.below BB4).setU (p := ⟨g2, 1, none⟩) (Or.inl gg2) _).mono (Nat.zero_le _) (by simpa using BB4.size)
      · have hqe : ¬ xd1 = q := by omega
        go_wp2_with fail
        obtain ⟨v0, v1, v2, v3⟩ := HM2.out _ (WB2.step (Bel.drew0 w2))
        refine wp_region_held_drew (S := fun w' => w'.cell? ⟨w.heap.size + 1, 4, none⟩ = some (.int .i64 ka') ∧ w'.cell? ⟨g1, 2, none⟩ = some (.slice zb2 Rr.length zd2)) (by kernel_rfl) (HSS.out _ (Bel.drew0 w2)) (fun hS => ?_)
        change wpAnyH _ _ _ _ _ 15 #[false, false, false, false, false, false, false, false, false, false, false, false, false, false, false] _ _
        refine wpAnyH_take (i := 0) (oi := ⟨_, _, _, _, _, _⟩) (v := ?v0_14) rfl (by kernel_rfl) (by kernel_rfl) (by kernel_rfl) (fun _ _ _ h => h) (Or.inl ⟨by rfl, ?hy0_14⟩) hS ?rest0_14
        case hy0_14 =>
          intro w' hSw
          obtain ⟨y1, y2⟩ := hSw
          go_simp
          try with_reducible rfl
        try simp only [Act.put, List.setIfInBounds_toArray, List.set_cons_zero, List.set_cons_succ]
        refine wpAnyH_take (i := 2) (oi := ⟨_, _, _, _, _, _⟩) (v := ?v2_15) rfl (by kernel_rfl) (by kernel_rfl) (by kernel_rfl) (fun _ _ _ h => h) (Or.inl ⟨by rfl, ?hy2_15⟩) hS ?rest2_15
        case hy2_15 =>
          intro w' hSw
          obtain ⟨y1, y2⟩ := hSw
          go_simp
          try with_reducible rfl
        try simp only [Act.put, List.setIfInBounds_toArray, List.set_cons_zero, List.set_cons_succ]
        refine wpAnyH_take (i := 3) (oi := ⟨_, _, _, _, _, _⟩) (v := ?v3_16) rfl (by kernel_rfl) (by kernel_rfl) (by kernel_rfl) (fun _ _ _ h => h) (Or.inl ⟨by rfl, ?hy3_16⟩) hS ?rest3_16
        case hy3_16 =>
          intro w' hSw
          obtain ⟨y1, y2⟩ := hSw
          go_simp
          try with_reducible rfl
        try simp only [Act.put, List.setIfInBounds_toArray, List.set_cons_zero, List.set_cons_succ]
        refine wpAnyH_take (i := 5) (oi := ⟨_, _, _, _, _, _⟩) (v := ?v5_17) rfl (by kernel_rfl) (by kernel_rfl) (by kernel_rfl) (fun _ _ _ h => h) (Or.inl ⟨by rfl, ?hy5_17⟩) hS ?rest5_17
        case hy5_17 =>
          intro w' hSw
          obtain ⟨y1, y2⟩ := hSw
          go_simp
          try with_reducible rfl
        try simp only [Act.put, List.setIfInBounds_toArray, List.set_cons_zero, List.set_cons_succ]
        refine wpAnyH_take (i := 6) (oi := ⟨_, _, _, _, _, _⟩) (v := ?v6_18) rfl (by kernel_rfl) (by kernel_rfl) (by kernel_rfl) (fun _ _ _ h => h) (Or.inl ⟨by rfl, ?hy6_18⟩) hS ?rest6_18
        case hy6_18 =>
          intro w' hSw
          obtain ⟨y1, y2⟩ := hSw
          go_simp
          try with_reducible rfl
        try simp only [Act.put, List.setIfInBounds_toArray, List.set_cons_zero, List.set_cons_succ]
        refine wpAnyH_take (i := 7) (oi := ⟨_, _, _, _, _, _⟩) (v := ?v7_19) rfl (by kernel_rfl) (by kernel_rfl) (by kernel_rfl) (fun _ _ _ h => h) (Or.inl ⟨by rfl, ?hy7_19⟩) hS ?rest7_19
        case hy7_19 =>
          intro w' hSw
          obtain ⟨y1, y2⟩ := hSw
          go_simp
          try with_reducible rfl
        try simp only [Act.put, List.setIfInBounds_toArray, List.set_cons_zero, List.set_cons_succ]
        refine wpAnyH_take (i := 9) (oi := ⟨_, _, _, _, _, _⟩) (v := ?v9_20) rfl (by kernel_rfl) (by kernel_rfl) (by kernel_rfl) (fun _ _ _ h => h) (Or.inl ⟨by rfl, ?hy9_20⟩) hS ?rest9_20
        case hy9_20 =>
          intro w' hSw
          obtain ⟨y1, y2⟩ := hSw
          go_simp
          try with_reducible rfl
        try simp only [Act.put, List.setIfInBounds_toArray, List.set_cons_zero, List.set_cons_succ]
        change wpAnyH _ _ _ _ _ 8 #[true, false, true, true, false, true, true, true, false, true, false, false, false, false, false] _ _
        refine wpAnyH_ready (rs := [1, 8]) (by kernel_rfl) (by simp) ?_
        refine AllReadyH.cons rfl (fun K hK => ?_) (AllReadyH.cons rfl (fun K hK => ?_) AllReadyH.nil)
        · go_simp
          refine hK.out _ _ hS (fun _ => ?_)
          clear hK K
          try simp only [Act.put, List.setIfInBounds_toArray, List.set_cons_zero, List.set_cons_succ]
          refine wpAnyH_take (i := 4) (oi := ⟨_, _, _, _, _, _⟩) (v := ?v4_21) rfl (by kernel_rfl) (by kernel_rfl) (by kernel_rfl) (fun _ _ _ h => h) (Or.inl ⟨by rfl, ?hy4_21⟩) hS ?rest4_21
          case hy4_21 =>
            intro w' hSw
            obtain ⟨y1, y2⟩ := hSw
            go_simp
            try with_reducible rfl
          try simp only [Act.put, List.setIfInBounds_toArray, List.set_cons_zero, List.set_cons_succ]
          refine wpAnyH_ready (rs := [8]) (by kernel_rfl) (by simp) ?_
          refine AllReadyH.cons rfl (fun K hK => ?_) AllReadyH.nil
          go_simp
          refine hK.out _ _ hS (fun _ => ?_)
          clear hK K
          try simp only [Act.put, List.setIfInBounds_toArray, List.set_cons_zero, List.set_cons_succ]
          refine wpAnyH_take (i := 10) (oi := ⟨_, _, _, _, _, _⟩) (v := ?v10_22) rfl (by kernel_rfl) (by kernel_rfl) (by kernel_rfl) (fun _ _ _ h => h) (Or.inl ⟨by rfl, ?hy10_22⟩) hS ?rest10_22
          case hy10_22 =>
            intro w' hSw
            obtain ⟨y1, y2⟩ := hSw
            go_simp
            try with_reducible rfl
          try simp only [Act.put, List.setIfInBounds_toArray, List.set_cons_zero, List.set_cons_succ]
          try simp only [Act.put, List.setIfInBounds_toArray, List.set_cons_zero, List.set_cons_succ]
          refine wpAnyH_ready (rs := [11]) (by kernel_rfl) (by simp) ?_
          refine AllReadyH.cons rfl (fun K hK => ?_) AllReadyH.nil
          go_simp
          refine hK.out _ _ (HSS.out _ ((Bel.drew0 w2).alloc _)) (fun _ => ?_)
          clear hK K
          refine wpAnyH_ready (rs := [12]) (by kernel_rfl) (by simp) ?_
          refine AllReadyH.cons rfl (fun K hK => ?_) AllReadyH.nil
          go_simp
          go_wp2_with ((go_at_call 114; refine (concat3_c 0 w2.heap.size _ _ _ _ _ _ _ _ _ (U.take ka') Rr (U.drop q) w2 hsum (hTk.out _ BW2) (hTR.out _ BW2) (hTl.out _ BW2) _).mono ?_; rintro e w4 ⟨a4, n4, c4, rfl, ho4, hb4⟩))
          have BB4 := hb4.of_drew.of_alloc
          rw [hfl.out] at ho4
          have hn4 := ho4.sl.slen
          subst hn4
          refine hK.out _ _ (HSS.out _ BB4) (fun _ => ?_)
          clear hK K
          obtain ⟨v0, v1, v2, v3⟩ := HM2.out _ (WB2.step BB4)
          have gg4 : g2 < w4.heap.size := World.block_lt_of_cell? w4 ⟨g2, 0, none⟩ v0
          try simp only [Act.put, List.setIfInBounds_toArray, List.set_cons_zero, List.set_cons_succ]
          refine wpAnyH_take (i := 13) (oi := ⟨_, _, _, _, _, _⟩) (v := ?v13_23) rfl (by kernel_rfl) (by kernel_rfl) (by kernel_rfl) (fun _ _ _ h => h) (Or.inl ⟨by rfl, ?hy13_23⟩) (HSS.out _ BB4) ?rest13_23
          case hy13_23 =>
            intro w' hSw
            obtain ⟨y1, y2⟩ := hSw
            go_simp
            try with_reducible rfl
          try simp only [Act.put, List.setIfInBounds_toArray, List.set_cons_zero, List.set_cons_succ]
          refine wpAnyH_ready (rs := [14]) (by kernel_rfl) (by simp) ?_
          refine AllReadyH.cons rfl (fun K hK => ?_) AllReadyH.nil
          go_simp
          have B4 := (HB2.step BB4).set (p := ⟨g2, 1, none⟩) lg2' (.slice a4 RP.length c4)
          have S4 := HSS.out _ BB4
          refine hK.out _ _ ⟨(HF.out _ B4).2.2.2.2.2.1, (World.cell?_setCell_far w4 ⟨g2, 1, none⟩ ⟨g1, 2, none⟩ _ (Ne.symm ne)).trans S4.2⟩ (fun _ => ?_)
          clear hK K
          refine wpAnyH_done (by kernel_rfl) ?_ _
          go_wp2_with fail
          go_meet
          have lo4 : g2 < w2.heap.size := Nat.lt_of_lt_of_le gl2 WB2.size
          refine ⟨a4, c4, by simp [go_sem, v0], by simp [go_sem, v1], by simp [go_sem, v2], ?_, ?_, B4⟩
          · exact (ho4.sl.set (p := ⟨g2, 1, none⟩) (Or.inl (by simp; omega)) _).in'
          · exact ((ho2.sl.below BB4).setU (p := ⟨g2, 1, none⟩) (Or.inl gg2) _).mono (Nat.zero_le _) (by simpa using BB4.size)
        · go_simp
          refine hK.out _ _ hS (fun _ => ?_)
          clear hK K
          try simp only [Act.put, List.setIfInBounds_toArray, List.set_cons_zero, List.set_cons_succ]
          refine wpAnyH_take (i := 10) (oi := ⟨_, _, _, _, _, _⟩) (v := ?v10_24) rfl (by kernel_rfl) (by kernel_rfl) (by kernel_rfl) (fun _ _ _ h => h) (Or.inl ⟨by rfl, ?hy10_24⟩) hS ?rest10_24
          case hy10_24 =>
            intro w' hSw
            obtain ⟨y1, y2⟩ := hSw
            go_simp
            try with_reducible rfl
          try simp only [Act.put, List.setIfInBounds_toArray, List.set_cons_zero, List.set_cons_succ]
          refine wpAnyH_ready (rs := [1]) (by kernel_rfl) (by simp) ?_
          refine AllReadyH.cons rfl (fun K hK => ?_) AllReadyH.nil
          go_simp
          refine hK.out _ _ hS (fun _ => ?_)
          clear hK K
          try simp only [Act.put, List.setIfInBounds_toArray, List.set_cons_zero, List.set_cons_succ]
          refine wpAnyH_take (i := 4) (oi := ⟨_, _, _, _, _, _⟩) (v := ?v4_25) rfl (by kernel_rfl) (by kernel_rfl) (by kernel_rfl) (fun _ _ _ h => h) (Or.inl ⟨by rfl, ?hy4_25⟩) hS ?rest4_25
          case hy4_25 =>
            intro w' hSw
            obtain ⟨y1, y2⟩ := hSw
            go_simp
            try with_reducible rfl
          try simp only [Act.put, List.setIfInBounds_toArray, List.set_cons_zero, List.set_cons_succ]
          try simp only [Act.put, List.setIfInBounds_toArray, List.set_cons_zero, List.set_cons_succ]
          refine wpAnyH_ready (rs := [11]) (by kernel_rfl) (by simp) ?_
          refine AllReadyH.cons rfl (fun K hK => ?_) AllReadyH.nil
          go_simp
          refine hK.out _ _ (HSS.out _ ((Bel.drew0 w2).alloc _)) (fun _ => ?_)
          clear hK K
          refine wpAnyH_ready (rs := [12]) (by kernel_rfl) (by simp) ?_
          refine AllReadyH.cons rfl (fun K hK => ?_) AllReadyH.nil
          go_simp
          go_wp2_with ((go_at_call 114; refine (concat3_c 0 w2.heap.size _ _ _ _ _ _ _ _ _ (U.take ka') Rr (U.drop q) w2 hsum (hTk.out _ BW2) (hTR.out _ BW2) (hTl.out _ BW2) _).mono ?_; rintro e w4 ⟨a4, n4, c4, rfl, ho4, hb4⟩))
          have BB4 := hb4.of_drew.of_alloc
          rw [hfl.out] at ho4
          have hn4 := ho4.sl.slen
          subst hn4
          refine hK.out _ _ (HSS.out _ BB4) (fun _ => ?_)
          clear hK K
          obtain ⟨v0, v1, v2, v3⟩ := HM2.out _ (WB2.step BB4)
          have gg4 : g2 < w4.heap.size := World.block_lt_of_cell? w4 ⟨g2, 0, none⟩ v0
          try simp only [Act.put, List.setIfInBounds_toArray, List.set_cons_zero, List.set_cons_succ]
          refine wpAnyH_take (i := 13) (oi := ⟨_, _, _, _, _, _⟩) (v := ?v13_26) rfl (by kernel_rfl) (by kernel_rfl) (by kernel_rfl) (fun _ _ _ h => h) (Or.inl ⟨by rfl, ?hy13_26⟩) (HSS.out _ BB4) ?rest13_26
          case hy13_26 =>
            intro w' hSw
            obtain ⟨y1, y2⟩ := hSw
            go_simp
            try with_reducible rfl
          try simp only [Act.put, List.setIfInBounds_toArray, List.set_cons_zero, List.set_cons_succ]
          refine wpAnyH_ready (rs := [14]) (by kernel_rfl) (by simp) ?_
          refine AllReadyH.cons rfl (fun K hK => ?_) AllReadyH.nil
          go_simp
          have B4 := (HB2.step BB4).set (p := ⟨g2, 1, none⟩) lg2' (.slice a4 RP.length c4)
          have S4 := HSS.out _ BB4
          refine hK.out _ _ ⟨(HF.out _ B4).2.2.2.2.2.1, (World.cell?_setCell_far w4 ⟨g2, 1, none⟩ ⟨g1, 2, none⟩ _ (Ne.symm ne)).trans S4.2⟩ (fun _ => ?_)
          clear hK K
          refine wpAnyH_done (by kernel_rfl) ?_ _
          go_wp2_with fail
          go_meet
          have lo4 : g2 < w2.heap.size := Nat.lt_of_lt_of_le gl2 WB2.size
          refine ⟨a4, c4, by simp [go_sem, v0], by simp [go_sem, v1], by simp [go_sem, v2], ?_, ?_, B4⟩
          · exact (ho4.sl.set (p := ⟨g2, 1, none⟩) (Or.inl (by simp; omega)) _).in'
          · exact ((ho2.sl.below BB4).setU (p := ⟨g2, 1, none⟩) (Or.inl gg2) _).mono (Nat.zero_le _) (by simpa using BB4.size)
    case rest =>
    obtain ⟨ra, rc, M0, M1, M2, RS, US, HC⟩ := hcut
    clear hTT HSS hTk hTR hfl hsum HM1 HM2 HB1 HB2 BW1 BW2 WB2 BW1d hbd hb1 hb2 ho2
    have BC := B2.step HC
    obtain ⟨y1, y2, hy, ty1, ty2⟩ := sides_x (x := (pd, RP, V)) (l := 0) (h := wc.heap.size) HTT.out.2 RS (t6.below BC).in'
    have E3 := tvV_of (p := pd) hy
    obtain ⟨yb1, ym1, yd1⟩ := y1
    obtain ⟨yb2, ym2, yd2⟩ := y2
    simp only [encS] at E3 ty1 ty2
    have E3 := Lib.hid E3
    have ty1 := Lib.hid ty1
    have ty2 := Lib.hid ty2
    clear hy
    have hcap : c.length ≤ cap := by obtain ⟨_, _, e, hc, _⟩ := hu; simp only [Value.slice.injEq] at e; omega
    have hcap2 : d.length ≤ cap2 := by obtain ⟨_, _, e, hc, _⟩ := hx; simp only [Value.slice.injEq] at e; omega
    obtain ⟨qc, hqc⟩ : ∃ q, q = k1 + 1 := ⟨_, rfl⟩
    obtain ⟨qd, hqd⟩ : ∃ q, q = k2 + 1 := ⟨_, rfl⟩
    have hPRE : Hid (c.take k1 ++ c.drop qc ++ d.take k2 ++ [(pd, sideL (pd, RP, V) wo, sideR (pd, RP, V) wo)] ++ d.drop qd = supPre ar c d ((k1 : Int), ws, (k2 : Int), wo, (ka' : Int))) := by
      show _ = _
      rw [hqc, hqd]
      refine supPre_parts ar c d k1 k2 ws wo ka' hk2 _ ?_
      rw [eU, eR, eRp]
      have hV0 := HL0.out.2.2
      have hpd := hP0
      unfold putSide sideL sideR
      unfold sideR at hV0
      rcases HTT.out.2 with h | h
      · subst h; simp at hV0 ⊢; exact ⟨hpd, hV0⟩
      · subst h; simp at hV0 ⊢; exact ⟨hpd, hV0⟩
    generalize hPR : supPre ar c d ((k1 : Int), ws, (k2 : Int), wo, (ka' : Int)) = PRE at *
    have HPR := Lib.hid hPR
    clear hPR
    have hqc1 : (qc : Int) ≤ c.length := by omega
    have hqd1 : (qd : Int) ≤ d.length := by omega
    have hqc2 : qc ≤ c.length := by omega
    have hqd2 : qd ≤ d.length := by omega
    have hwc : IntKind.i64.wrap ((k1 : Int) + 1) = (qc : Int) := by rw [IntWalk.i64_in ((k1 : Int) + 1) (by omega)]; omega
    have hwd : IntKind.i64.wrap ((k2 : Int) + 1) = (qd : Int) := by rw [IntWalk.i64_in ((k2 : Int) + 1) (by omega)]; omega
    have hk1c : (k1 : Int) ≤ cap := by omega
    have hk2c : (k2 : Int) ≤ cap2 := by omega
    have hqcc : (qc : Int) ≤ cap := by omega
    have hqdc : (qd : Int) ≤ cap2 := by omega
    have hszz : (c.take k1).length + (c.drop qc).length + (d.take k2).length + (d.drop qd).length ≤ 1048576 := by simp; omega
    have hZc := (hu.below BC).in'
    have hZd := (hx.below BC).in'
    have hHc := Lib.hid (hZc.head k1 (by omega))
    have hHd := Lib.hid (hZd.head k2 (by omega))
    have hTc := hZc.tail qc hqc2
    have hTd := hZd.tail qd hqd2
    have BD7 := Bel.drew0 wc
    have HS7 := Lib.hid (fun (w' : World) (hb : Bel wc w') => (⟨(HF.out _ (HC.step hb)).2.1, (HF.out _ (HC.step hb)).2.2.2.1, (HF.out _ (HC.step hb)).2.2.2.2.1, hb.at (World.block_lt_of_cell? wc ⟨g2, 0, none⟩ M0) M0, hb.at (World.block_lt_of_cell? wc ⟨g2, 0, none⟩ M0) M1, hb.at (World.block_lt_of_cell? wc ⟨g2, 0, none⟩ M0) M2⟩ : w'.cell? ⟨w.heap.size + 1, 0, none⟩ = some (.int .i64 k1) ∧ w'.cell? ⟨w.heap.size + 1, 2, none⟩ = some (.int .i64 k2) ∧ w'.cell? ⟨w.heap.size + 1, 3, none⟩ = some (.int .i64 wo) ∧ w'.cell? ⟨g2, 0, none⟩ = some (.bool pd) ∧ w'.cell? ⟨g2, 1, none⟩ = some (.slice ra RP.length rc) ∧ w'.cell? ⟨g2, 2, none⟩ = some (.slice xb2 V.length xd2)))
    go_upto_region 8 with fail
    go_cut [16] (fun s wx => ∃ oa oc, s = .slice oa PRE.length oc ∧ SlC 0 wx.heap.size wx (.slice oa PRE.length oc) PRE ∧ Bel wc wx)
    case first =>
      clear hqc hqd hgo HKX HRP HPR HL0 hokc hokd hc hd hin
      rcases hTc with ⟨hce, hTc⟩ | ⟨hce, hTc⟩
      · obtain rfl : cap = qc := hce
        rcases hTd with ⟨hde, hTd⟩ | ⟨hde, hTd⟩
        · obtain rfl : cap2 = qd := hde
          have HCO := Lib.hid (fun (w5 : World) (hb : Bel wc w5) => concat5C_c _ _ _ _ _ _ _ _ _ _ _ _ (c.take k1) (c.drop cap) (d.take k2) (d.drop cap2) pd _ _ _ _ w5 hszz ((hHc.out.below hb).in') ((hTc.below hb).in') ((hHd.out.below hb).in') ((hTd.below hb).in') (ty1.out.below hb).in' (ty2.out.below hb).in' 67)
          go_wp2_with fail
          go_region_held3 (fun w' => w'.cell? ⟨w.heap.size + 1, 0, none⟩ = some (.int .i64 k1) ∧ w'.cell? ⟨w.heap.size + 1, 2, none⟩ = some (.int .i64 k2) ∧ w'.cell? ⟨w.heap.size + 1, 3, none⟩ = some (.int .i64 wo) ∧ w'.cell? ⟨g2, 0, none⟩ = some (.bool pd) ∧ w'.cell? ⟨g2, 1, none⟩ = some (.slice ra RP.length rc) ∧ w'.cell? ⟨g2, 2, none⟩ = some (.slice xb2 V.length xd2))
            (first | exact HS7.out _ BD7 | exact HS7.out _ (BD7.step hb5) | exact HS7.out _ ((BD7.step hb5).alloc _) | exact HS7.out _ (((BD7.step hb5).alloc _).alloc _) | exact HS7.out _ ((((BD7.step hb5).alloc _).alloc _).step hb6) | fail)
            (first | (go_at_call 106; refine (turned_u _ _ _ _ _ _ _ _ _ HTT.out.2).mono ?_; rintro e w5 ⟨rfl, hb5⟩; rw [E3.out]) | (go_at_call 115; refine (HCO.out _ (BD7.step hb5) _).mono ?_; rintro e w6 ⟨oa, on, oc, rfl, hs6, hb6⟩) | fail)
          go_wp2_with fail
          go_meet
          have hs7 := hPRE.out ▸ hs6
          obtain rfl := hs7.len
          exact ⟨oa, oc, rfl, hs7, (((BD7.step hb5).alloc _).alloc _).step hb6⟩
        · have hde' : ¬ cap2 = qd := by omega
          have HCO := Lib.hid (fun (w5 : World) (hb : Bel wc w5) => concat5C_c _ _ _ _ _ _ _ _ _ _ _ _ (c.take k1) (c.drop cap) (d.take k2) (d.drop qd) pd _ _ _ _ w5 hszz ((hHc.out.below hb).in') ((hTc.below hb).in') ((hHd.out.below hb).in') ((hTd.below hb).in') (ty1.out.below hb).in' (ty2.out.below hb).in' 67)
          go_wp2_with fail
          go_region_held3 (fun w' => w'.cell? ⟨w.heap.size + 1, 0, none⟩ = some (.int .i64 k1) ∧ w'.cell? ⟨w.heap.size + 1, 2, none⟩ = some (.int .i64 k2) ∧ w'.cell? ⟨w.heap.size + 1, 3, none⟩ = some (.int .i64 wo) ∧ w'.cell? ⟨g2, 0, none⟩ = some (.bool pd) ∧ w'.cell? ⟨g2, 1, none⟩ = some (.slice ra RP.length rc) ∧ w'.cell? ⟨g2, 2, none⟩ = some (.slice xb2 V.length xd2))
            (first | exact HS7.out _ BD7 | exact HS7.out _ (BD7.step hb5) | exact HS7.out _ ((BD7.step hb5).alloc _) | exact HS7.out _ (((BD7.step hb5).alloc _).alloc _) | exact HS7.out _ ((((BD7.step hb5).alloc _).alloc _).step hb6) | fail)
            (first | (go_at_call 106; refine (turned_u _ _ _ _ _ _ _ _ _ HTT.out.2).mono ?_; rintro e w5 ⟨rfl, hb5⟩; rw [E3.out]) | (go_at_call 115; refine (HCO.out _ (BD7.step hb5) _).mono ?_; rintro e w6 ⟨oa, on, oc, rfl, hs6, hb6⟩) | fail)
          go_wp2_with fail
          go_meet
          have hs7 := hPRE.out ▸ hs6
          obtain rfl := hs7.len
          exact ⟨oa, oc, rfl, hs7, (((BD7.step hb5).alloc _).alloc _).step hb6⟩
      · have hce' : ¬ cap = qc := by omega
        rcases hTd with ⟨hde, hTd⟩ | ⟨hde, hTd⟩
        · obtain rfl : cap2 = qd := hde
          have HCO := Lib.hid (fun (w5 : World) (hb : Bel wc w5) => concat5C_c _ _ _ _ _ _ _ _ _ _ _ _ (c.take k1) (c.drop qc) (d.take k2) (d.drop cap2) pd _ _ _ _ w5 hszz ((hHc.out.below hb).in') ((hTc.below hb).in') ((hHd.out.below hb).in') ((hTd.below hb).in') (ty1.out.below hb).in' (ty2.out.below hb).in' 67)
          go_wp2_with fail
          go_region_held3 (fun w' => w'.cell? ⟨w.heap.size + 1, 0, none⟩ = some (.int .i64 k1) ∧ w'.cell? ⟨w.heap.size + 1, 2, none⟩ = some (.int .i64 k2) ∧ w'.cell? ⟨w.heap.size + 1, 3, none⟩ = some (.int .i64 wo) ∧ w'.cell? ⟨g2, 0, none⟩ = some (.bool pd) ∧ w'.cell? ⟨g2, 1, none⟩ = some (.slice ra RP.length rc) ∧ w'.cell? ⟨g2, 2, none⟩ = some (.slice xb2 V.length xd2))
            (first | exact HS7.out _ BD7 | exact HS7.out _ (BD7.step hb5) | exact HS7.out _ ((BD7.step hb5).alloc _) | exact HS7.out _ (((BD7.step hb5).alloc _).alloc _) | exact HS7.out _ ((((BD7.step hb5).alloc _).alloc _).step hb6) | fail)
            (first | (go_at_call 106; refine (turned_u _ _ _ _ _ _ _ _ _ HTT.out.2).mono ?_; rintro e w5 ⟨rfl, hb5⟩; rw [E3.out]) | (go_at_call 115; refine (HCO.out _ (BD7.step hb5) _).mono ?_; rintro e w6 ⟨oa, on, oc, rfl, hs6, hb6⟩) | fail)
          go_wp2_with fail
          go_meet
          have hs7 := hPRE.out ▸ hs6
          obtain rfl := hs7.len
          exact ⟨oa, oc, rfl, hs7, (((BD7.step hb5).alloc _).alloc _).step hb6⟩
        · have hde' : ¬ cap2 = qd := by omega
          have HCO := Lib.hid (fun (w5 : World) (hb : Bel wc w5) => concat5C_c _ _ _ _ _ _ _ _ _ _ _ _ (c.take k1) (c.drop qc) (d.take k2) (d.drop qd) pd _ _ _ _ w5 hszz ((hHc.out.below hb).in') ((hTc.below hb).in') ((hHd.out.below hb).in') ((hTd.below hb).in') (ty1.out.below hb).in' (ty2.out.below hb).in' 67)
          go_wp2_with fail
          go_region_held3 (fun w' => w'.cell? ⟨w.heap.size + 1, 0, none⟩ = some (.int .i64 k1) ∧ w'.cell? ⟨w.heap.size + 1, 2, none⟩ = some (.int .i64 k2) ∧ w'.cell? ⟨w.heap.size + 1, 3, none⟩ = some (.int .i64 wo) ∧ w'.cell? ⟨g2, 0, none⟩ = some (.bool pd) ∧ w'.cell? ⟨g2, 1, none⟩ = some (.slice ra RP.length rc) ∧ w'.cell? ⟨g2, 2, none⟩ = some (.slice xb2 V.length xd2))
            (first | exact HS7.out _ BD7 | exact HS7.out _ (BD7.step hb5) | exact HS7.out _ ((BD7.step hb5).alloc _) | exact HS7.out _ (((BD7.step hb5).alloc _).alloc _) | exact HS7.out _ ((((BD7.step hb5).alloc _).alloc _).step hb6) | fail)
            (first | (go_at_call 106; refine (turned_u _ _ _ _ _ _ _ _ _ HTT.out.2).mono ?_; rintro e w5 ⟨rfl, hb5⟩; rw [E3.out]) | (go_at_call 115; refine (HCO.out _ (BD7.step hb5) _).mono ?_; rintro e w6 ⟨oa, on, oc, rfl, hs6, hb6⟩) | fail)
          go_wp2_with fail
          go_meet
          have hs7 := hPRE.out ▸ hs6
          obtain rfl := hs7.len
          exact ⟨oa, oc, rfl, hs7, (((BD7.step hb5).alloc _).alloc _).step hb6⟩
    case rest =>
    obtain ⟨oa, oc, rfl, HO, HD⟩ := hcut
    clear hTc hTd hHc hHd hPRE HS7 E3 ty1 ty2 hZc hZd BD7 M0 M1 M2 RS hcap hcap2 hqc1 hqd1 hqc2 hqd2 hwc hwd hk1c hk2c hqcc hqdc hszz hqc hqd
    have BE := BC.step HD
    have US2 := US.below HD
    have HE := HC.step HD
    have hun : unifyOk ar L (partOf U ka' q) = true := HKX.out.1
    have hsub := unify_subst hun
    obtain ⟨hl12, h40⟩ := unify_seat hun
    rw [HKX.out.2] at hsub hl12 h40
    have hPm : ∀ t ∈ flatC PRE, okTerm ar t = true ∨ t = RP := by
      have := supPre_mem (k1 := k1) (ws := ws) (wo := wo) (wa := (ka' : Int)) hc hd hk2
      rw [HPR.out, eU, eR, eRp] at this; exact this
    have hRPr : RP.length ≤ 1024 ∧ ∀ j, j < RP.length → -12 ≤ RP.getD j 0 := by
      have := supPre_rows (k := ka') (q := q) hUok hRok; rw [HRP.out] at this; exact this
    have hRPok : okTerm ar (appT XX RP) = app40ok XX RP := by
      have := app_ok2 (q := q) hsub hUok hRok hka hend; rw [HRP.out] at this; exact this
    have hfP : ∀ t ∈ flatC PRE, t.length ≤ 1024 ∧ ∀ j, j < t.length → -12 ≤ t.getD j 0 := fun t ht => by
      rcases hPm t ht with h | h
      · exact ⟨by have := (okTerm_len h).2; omega, low_memC fun _ hn => ok_low h hn⟩
      · rw [h]; exact hRPr
    have hokP := applyC_okW (ar := ar) (b := XX) (c := PRE) (fun t ht => by
      rcases hPm t ht with h | h
      · exact app_ok hsub h
      · rw [h]; exact hRPok)
    have hPl : PRE.length ≤ 1048576 := by rw [← HPR.out]; unfold supPre dropAt; simp; omega
    have hokC := applyC_ok hsub hc
    have hokD := applyC_ok hsub hd
    have hRN : (if (((flatC c).all (app40ok XX) && (flatC d).all (app40ok XX)) && (decide (PRE.length ≤ 8) && (flatC PRE).all (app40ok XX))) = true then (applyC XX PRE, if ((overT (appT XX L) (appT XX Rr) && overT (appT XX U) (appT XX V)) && (maxAt (applyC XX c) k1 && maxAt (applyC XX d) k2)) = true then (0 : Int) else 5) else ([], 4)) = (r, n) := by
      rw [← hgo.out, supE_yes (by rw [eL, eAt]; exact hun), eL, eAt, HKX.out.2]
      unfold supOk supLead
      rw [HPR.out, eL, eR, eU, eV, hokC, hokD, hokP]
      dsimp only
      rw [Int.toNat_natCast, Int.toNat_natCast]
    have HA1 := Lib.hid (appliedClause_c _ _ _ _ (.slice oa PRE.length oc) (.slice ua un uc) XX PRE wc hl12 h40 hPl hfP US2 HO _ _ rfl rfl)
    have HA2 := Lib.hid (fun (w' : World) (hb : Bel wc w') => appliedClause_c _ _ _ _ _ (.slice ua un uc) XX c w' hl12 h40 (by omega) (flat_rows hc) (US2.below hb) (hu.below (BE.step hb)) _ _ rfl rfl)
    have HA3 := Lib.hid (fun (w' : World) (hb : Bel wc w') => appliedClause_c _ _ _ _ _ (.slice ua un uc) XX d w' hl12 h40 (by omega) (flat_rows hd) (US2.below hb) (hx.below (BE.step hb)) _ _ rfl rfl)
    have hs1c := side_app (b := XX) hk1 ws
    have hs2d := side_app (b := XX) hk2 wo
    rw [HL0.out.1.1, HL0.out.1.2] at hs1c
    rw [HL0.out.2.1, HL0.out.2.2] at hs2d
    have HLc := Lib.hid (fun (w' : World) (y : Value) (lo hi : Nat) (g : Bool) (hq : (overT (appT XX L) (appT XX Rr) && maxAt (applyC XX c) k1) = g) (hbig : (flatC c).all (app40ok XX) = true) (hb : Bel w w') (hy : SlC lo hi w' y (applyC XX c)) =>
      leads_v lo hi y (applyC XX c) k1 ws g w' (by rw [hs1c.1, hs1c.2]; exact hq) hs1 (hT.bel hb) (okLits_short (hokC.trans hbig)) (okLits_low (hokC.trans hbig)) (okLits_lowT (hokC.trans hbig)) (by simpa [applyC] using hk1) hy)
    have HLd := Lib.hid (fun (w' : World) (y : Value) (lo hi : Nat) (g : Bool) (hq : (overT (appT XX U) (appT XX V) && maxAt (applyC XX d) k2) = g) (hbig : (flatC d).all (app40ok XX) = true) (hb : Bel w w') (hy : SlC lo hi w' y (applyC XX d)) =>
      leads_v lo hi y (applyC XX d) k2 wo g w' (by rw [hs2d.1, hs2d.2]; exact hq) hs2 (hT.bel hb) (okLits_short (hokD.trans hbig)) (okLits_low (hokD.trans hbig)) (okLits_lowT (hokD.trans hbig)) (by simpa [applyC] using hk2) hy)
    have HRN := Lib.hid hRN
    have hPap : (applyC XX PRE).length = PRE.length := by simp [applyC]
    clear hRN hPm hRPr hRPok hfP hokP hokC hokD hs1c hs2d hun hsub hl12 h40 hgo HKX HPR HRP HL0 hokc hokd hc hd hin
    generalize (flatC PRE).all (app40ok XX) = qP at *
    generalize (flatC c).all (app40ok XX) = qC at *
    generalize (flatC d).all (app40ok XX) = qD at *
    generalize applyC XX PRE = AP at *
    generalize applyC XX c = AC at *
    generalize applyC XX d = AD at *
    generalize maxAt AC k1 = mC at *
    generalize maxAt AD k2 = mD at *
    generalize overT (appT XX L) (appT XX Rr) = oC at *
    generalize overT (appT XX U) (appT XX V) = oD at *
    go_wp2_with fail
    refine HA1.out.mono ?_; rintro e w8 ⟨pa, pn, pc, rfl, hp8, hb8⟩
    go_wp2_with fail
    refine (HA2.out _ hb8).mono ?_; rintro e w9 ⟨ca, cn, cc, rfl, hc9, hb9⟩
    go_wp2_with fail
    refine (HA3.out _ (hb8.step hb9)).mono ?_; rintro e w10 ⟨da, dn, dc, rfl, hd10, hb10⟩
    have BZ := BE.step ((hb8.step hb9).step hb10)
    have HZ := HE.step ((hb8.step hb9).step hb10)
    have hpn := hp8.sl.len
    subst hpn
    clear HA1 HA2 HA3
    have HNO : ∀ (h : ((qC && qD) && (decide (PRE.length ≤ 8) && qP)) = false), r = [] ∧ n = 4 := fun h => by
      have := HRN.out
      rw [if_neg (by rw [h]; simp)] at this
      simp only [Prod.mk.injEq] at this
      exact ⟨this.1.symm, this.2.symm⟩
    cases qP with
    | false =>
      obtain ⟨rfl, rfl⟩ := HNO (by simp)
      go_wp2_with fail
      go_ret2
      exact ⟨_, _, _, rfl, SlC.nil _ _ _, BZ⟩
    | true =>
      rw [if_pos rfl] at hp8
      try rw [if_pos rfl]
      cases qC with
      | false =>
        obtain ⟨rfl, rfl⟩ := HNO (by simp)
        go_wp2_with fail
        go_ret2
        exact ⟨_, _, _, rfl, SlC.nil _ _ _, BZ⟩
      | true =>
        cases qD with
        | false =>
          obtain ⟨rfl, rfl⟩ := HNO (by simp)
          go_wp2_with fail
          go_ret2
          exact ⟨_, _, _, rfl, SlC.nil _ _ _, BZ⟩
        | true =>
          rw [if_pos rfl] at hc9 hd10
          try rw [hPap]
          rw [hPap] at hp8
          by_cases h8P : PRE.length ≤ 8
          · have hRN2 := HRN.out
            have hcnd : ((true && true) && (decide (PRE.length ≤ 8) && true)) = true := by simp [h8P]
            rw [if_pos hcnd] at hRN2
            simp only [Prod.mk.injEq] at hRN2
            obtain ⟨rfl, hN⟩ := hRN2
            have h8I : ¬ (PRE.length : Int) > 8 := by omega
            have hR8 := Lib.hid (hp8.sl.below (hb9.step hb10)).in'
            have HF8 := HF.out _ HZ
            obtain ⟨-, s1, s2, s3, s4, -⟩ := HF8
            have HL1 := Lib.hid (HLc.out _ _ _ _ _ rfl rfl BZ (hc9.sl.below hb10))
            have HL2 := Lib.hid (fun (w' : World) (hb : Bel w10 w') => HLd.out _ _ _ _ _ rfl rfl (BZ.step hb) (hd10.sl.below hb))
            have HNN := Lib.hid hN
            clear HLc HLd hN HNO HRN
            go_wp2_with fail
            refine HL1.out.mono ?_; rintro e w11 ⟨rfl, hb11⟩
            have hb10' := hb11
            cases hoC : (oC && mC) with
            | false =>
              have hn5 : n = 5 := by rw [← HNN.out, if_neg]; revert hoC; cases oC <;> cases mC <;> simp
              subst hn5
              go_wp2_with fail
              go_ret2
              exact ⟨_, _, _, rfl, (hR8.out.below hb11).in', BZ.step hb11⟩
            | true =>
              obtain ⟨-, s1, s2, s3, s4, -⟩ := HF.out _ (HZ.step hb11)
              have HL3 := Lib.hid (HL2.out _ hb11)
              clear HL2
              go_wp2_with fail
              refine HL3.out.mono ?_; rintro e w12 ⟨rfl, hb12⟩
              cases hoD : (oD && mD) with
              | false =>
                have hn5 : n = 5 := by rw [← HNN.out, if_neg]; revert hoD; cases oD <;> cases mD <;> simp
                subst hn5
                go_wp2_with fail
                go_ret2
                exact ⟨_, _, _, rfl, ((hR8.out.below hb11).below hb12).in', (BZ.step hb11).step hb12⟩
              | true =>
                have hn0 : n = 0 := by
                  rw [← HNN.out, if_pos]
                  revert hoC hoD
                  cases oC <;> cases oD <;> cases mC <;> cases mD <;> simp
                subst hn0
                go_wp2_with fail
                go_ret2
                exact ⟨_, _, _, rfl, ((hR8.out.below hb11).below hb12).in', (BZ.step hb11).step hb12⟩
          · obtain ⟨rfl, rfl⟩ := HNO (by simp; omega)
            have h8I : (PRE.length : Int) > 8 := by omega
            go_wp2_with fail
            go_ret2
            exact ⟨_, _, _, rfl, SlC.nil _ _ _, BZ⟩
end Go.Proofs.YtikllmdmifecpaaGreatDoor
end
section
/- Chapter 4, the program: VarsIn. -/
namespace Go.Proofs.YtikllmdmifecpaaGreatDoor
open Go.RowKit

set_option maxRecDepth 100000 in
set_option maxHeartbeats 400000 in
theorem concat_nil (w : World) : Calls Tryz.prog 114 #[.slice none 0 0] w (RetI w []) := by
  go_enter Tryz.func114, Tryz.ntmps114
  go_wp2_with fail
  go_loop [3, 11] (fun n i => n = .int .i64 0 ∧ i = .int .i64 0) (fun _ _ => 0)
  case atStart => exact ⟨rfl, rfl⟩
  case round =>
    obtain ⟨rfl, rfl⟩ := hrel
    go_wp2_with fail
    refine (grow_c 0 _ (by omega)).mono ?_; rintro e w1 ⟨ad, m, c1, rfl, hown, hb⟩
    go_wp2_with fail
    go_loopw [6, 27] (fun v i wr => i = .int .i64 0 ∧ v = .slice ad m c1 ∧ wr = w1) (fun _ _ _ => 0)
    case atStart => exact ⟨rfl, rfl, rfl⟩
    case round =>
      obtain ⟨rfl, rfl, rfl⟩ := hrel
      go_wp2_with fail
      go_ret
      exact ⟨_, _, _, rfl, OwnI.of_row hown, hb⟩
theorem concatV_c (W : World) (v : Value) (L : List (List Int)) (w : World) (hb : Bel W w) (hL : L.length ≤ 1048576) (hs : sumLen L ≤ 1099511627776) (hv : RowV W w v L) :
    Calls Tryz.prog 114 #[v] w (RetI w L.flatten) := by
  have hsl := hv.sls hb
  obtain ⟨zs, h1, h2⟩ := hv
  rcases h1.2 with ⟨rfl, hn⟩ | ⟨g, cap, cur, rfl, _⟩
  · have : L = [] := List.length_eq_zero_iff.1 (by rw [← h2.1]; exact hn)
    subst this
    exact concat_nil w
  · obtain ⟨ad, cap', e, hc, hm, hr⟩ := hsl
    simp only [Value.slice.injEq] at e
    obtain ⟨rfl, e2, rfl⟩ := e
    rw [e2]
    refine concat_c 0 w.heap.size g 0 cap L w hL hs (fun j hj => ?_)
    obtain ⟨b, off, e3, _, _, hx⟩ := hr (by omega)
    simp only [Option.some.injEq, Addr.mk.injEq, and_true] at e3
    obtain ⟨rfl, rfl⟩ := e3
    obtain ⟨u, h1, h2⟩ := hx j hj
    obtain ⟨y, z, rfl⟩ := h2.form
    exact ⟨y, z, h1, h2⟩

set_option maxRecDepth 100000 in
set_option maxHeartbeats 400000 in
theorem clauseVars_c {l' h' : Nat} {u : Value} {c : List Lt} {w : World} (hsum : sumL (flatC c) ≤ 1048576) (h8 : c.length ≤ 8) (hlow : ∀ k, k < (flatC c).flatten.length → -12 ≤ (flatC c).flatten.getD k 0) (hu : SlC l' h' w u c) :
    Calls Tryz.prog 107 #[u] w (RetI w (natsI (varsTo (mk (flatC c).flatten) 12))) := by
  have hfl := flatC_len c
  have HC := Lib.hid (termsIn_c l' h' u c w (by omega) hu)
  have hcl : c.length ≤ 1048576 := by omega
  clear hu
  go_enter Tryz.func107, Tryz.ntmps107
  go_wp2_with fail
  refine HC.out.mono ?_; rintro e w2 ⟨a2, n2, c2, rfl, hrow, hb2⟩
  have hsl : sumLen (flatC c) = sumL (flatC c) := rfl
  have hfn := flat_len (flatC c)
  generalize flatC c = L at *
  go_wp2_with fail
  refine (concatV_c w _ L w2 hb2 (by omega) (by omega) hrow).mono ?_; rintro e w3 ⟨a3, n3, c3, rfl, ho3, hb3⟩
  go_wp2_with fail
  refine (marksOf_c _ _ _ L.flatten w3 (by omega) hlow ho3.sl).mono ?_; rintro e w4 ⟨rfl, hb4⟩
  go_wp2_with fail
  refine (mvars_c _ w4).mono ?_; rintro e w5 ⟨a5, n5, c5, rfl, ho5, hb5⟩
  have HB4 := (hb2.step hb3).step hb4
  go_wp2_with fail
  go_ret
  exact ⟨_, _, _, rfl, ho5.mono HB4.size (Nat.le_refl _), HB4.step hb5⟩

set_option maxRecDepth 100000 in
set_option maxHeartbeats 400000 in
theorem iVarsIn_t {l h l' h' : Nat} {v u : Value} {ar : List Int} {c : List Lt} {w : World} (ha : ar.length ≤ 1048576) (hv : SlI l h w v ar) (hc : sumC c ≤ 1048576) (hu : SlC l' h' w u c) :
    Calls Tryz.prog 179 #[.agg #[v], u] w (RetIB w (varsInAns ar c) (goodClause ar c)) := by
  unfold varsInAns
  cases hg : goodClause ar c with
  | false =>
    rw [if_neg (by simp)]
    have HG := Lib.hid hg; clear hg
    go_enter Tryz.func179, Tryz.ntmps179
    go_wp2_with fail
    refine (iGoodClause_v HG.out ha (hv.alloc _) hc (hu.alloc _)).mono ?_; rintro e w1 ⟨rfl, hb1⟩
    go_wp2_with fail
    go_ret2
    exact ⟨_, _, _, rfl, OwnI.nil _ _ _, hb1.of_alloc⟩
  | true =>
    rw [if_pos rfl]
    have hsum := (short_flat hc).1
    have hlow := flat_low hg
    have h8 := (goodClause_iff.1 hg).2.1
    have HG := Lib.hid hg; clear hg
    have HC := Lib.hid (fun (w' : World) (hb : Bel w w') => clauseVars_c hsum h8 hlow (hu.below hb))
    go_enter Tryz.func179, Tryz.ntmps179
    go_wp2_with fail
    refine (iGoodClause_v HG.out ha (hv.alloc _) hc (hu.alloc _)).mono ?_; rintro e w1 ⟨rfl, hb1⟩
    clear hc hu hv hlow
    go_wp2_with fail
    refine (HC.out _ hb1.of_alloc).mono ?_; rintro e w5 ⟨a5, n5, c5, rfl, ho5, hb5⟩
    go_wp2_with fail
    go_ret2
    exact ⟨_, _, _, rfl, ho5.mono hb1.of_alloc.size (Nat.le_refl _), hb1.of_alloc.step hb5⟩
end Go.Proofs.YtikllmdmifecpaaGreatDoor
end
section
/- Chapter 6, the program: ApartClauses. -/
namespace Go.Proofs.YtikllmdmifecpaaGreatDoor
open Go.RowKit

theorem iShiftVars_w {l h l' h' : Nat} {v u : Value} {ar t : List Int} {w : World} (ha : ar.length ≤ 1048576) (hv : SlI l h w v ar) (ht : t.length ≤ 1048576) (hu : SlI l' h' w u t) {i : Int} (h1 : -9223372036854775808 ≤ i) (h2 : i ≤ 9223372036854775807) {xs : List Int} {b : Bool} (e1 : shiftAns ar t i = xs) (e2 : shiftOk ar t i = b) :
    Calls Tryz.prog 111 #[.agg #[v], u, .int .i64 i] w (RetIB w xs b) := by subst e1 e2; exact iShiftVars_t ha hv ht hu h1 h2

set_option maxRecDepth 100000 in
set_option maxHeartbeats 400000 in
theorem slMax_c (l h : Nat) (v : Value) (L : List Nat) (w : World) (hp : 0 < L.length) (hl : L.length ≤ 12) (hle : ∀ i, i + 1 < L.length → L.getD i 0 < L.getD (i+1) 0) (h12 : ∀ i, i < L.length → L.getD i 0 < 12) (hv : SlI l h w v (natsI L)) :
    Calls Tryz.prog 108 #[v] w (RetV w (.int .i64 (L.getD (L.length - 1) 0))) := by
  obtain ⟨ad, cap, rfl, hc, hm, hr⟩ := hv
  obtain ⟨b0, o0, rfl, -, hcell0⟩ := rd0 hr (by rw [natsI_len]; exact hp)
  rw [nget _ _ hp] at hcell0
  have HR := Lib.hid (fun k (hk : k < L.length) => (by
    obtain ⟨b, off, e, -, hcell⟩ := rd hr (Bel.rfl' _) k (by rw [natsI_len]; exact hk)
    rw [nget _ _ hk] at hcell
    simp only [Option.some.injEq, Addr.mk.injEq, and_true] at e
    obtain ⟨rfl, rfl⟩ := e
    exact hcell : w.cell? ⟨b0, o0 + k, none⟩ = some (.int .i64 (L.getD k 0 : Nat))))
  rw [natsI_len] at *
  clear hr hm
  have HLE := Lib.hid (fun k (h1 : 1 ≤ k) (hk : k < L.length) => (by have := hle (k-1) (by omega); rwa [show k - 1 + 1 = k from by omega] at this : L.getD (k-1) 0 < L.getD k 0))
  clear hle
  have hp1 : ¬ ((L.length : Int) < 1) := by omega
  generalize hF : (fun k => L.getD k 0) = F
  have HF : ∀ k, L.getD k 0 = F k := fun k => by rw [← hF]
  rw [HF] at *
  simp only [HF] at HR HLE h12
  clear HF hF
  generalize L.length = n at *
  go_enter Tryz.func108, Tryz.ntmps108
  go_wp2_with fail
  go_loop [3, 4] (fun m i => ∃ k : Nat, 1 ≤ k ∧ k ≤ n ∧ i = .int .i64 k ∧ m = .int .i64 (F (k-1) : Nat)) (fun _ i => n - (intOf i).toNat)
  case atStart => exact ⟨1, Nat.le_refl _, hp, rfl, rfl⟩
  case round =>
    obtain ⟨k, hk1, hk, rfl, rfl⟩ := hrel
    by_cases hlt : k < n
    · have hcell := HR.out k hlt
      have h1 := HLE.out k hk1 hlt
      have E := Lib.hid (show F (k + 1 - 1) = F k by rw [Nat.add_sub_cancel])
      have hq := h12 k hlt
      have hlt' : (k : Int) < n := by omega
      clear h12
      generalize F (k-1) = p at *
      generalize F k = q at *
      have hpq : (p : Int) < q := by omega
      go_wp2_with fail
      go_round
      case rel => exact ⟨k + 1, by omega, by omega, by go_num, by rw [E.out]; simp; omega⟩
      case measure => simp [intOf]; omega
    · obtain rfl : k = n := by omega
      go_wp2_with fail
      go_ret
      exact ⟨rfl, Bel.rfl' _⟩

theorem shiftAns_if (ar t : List Int) (d : Int) : shiftAns ar t d = if shiftOk ar t d then shifted t d else [] := by
  cases h : shiftOk ar t d with
  | true => rw [shift_yes h]; rfl
  | false => rw [shift_no h]; rfl

set_option maxRecDepth 100000 in
set_option maxHeartbeats 400000 in
theorem apartFn_c (g g2 l h l' h' : Nat) (v u : Value) (ar t : List Int) (N : Nat) (w : World) (ha : ar.length ≤ 1048576) (ht : t.length ≤ 1048576) (hN : N ≤ 12) (hc1 : w.cell? ⟨g, 0, none⟩ = some v) (hc2 : w.cell? ⟨g2, 0, none⟩ = some (.int .i64 N)) (hv : SlI l h w v ar) (hu : SlI l' h' w u t) :
    Calls Tryz.prog 110 #[u, .pointer (some ⟨g, 0, none⟩), .pointer (some ⟨g2, 0, none⟩)] w (RetIB w (shiftAns ar t N) (shiftOk ar t N)) := by
  have HC := Lib.hid (iShiftVars_t ha hv ht hu (i := (N : Int)) (by omega) (by omega))
  obtain ⟨ad, cap, rfl⟩ := hv.form
  obtain ⟨au, cu, rfl⟩ := hu.form
  clear ha ht hv hu
  generalize shiftAns ar t N = r at *
  generalize shiftOk ar t N = q at *
  go_enter Tryz.func110, Tryz.ntmps110
  go_wp2_with fail
  refine HC.out.mono ?_; rintro e w1 ⟨a1, n1, c1, rfl, ho1, hb1⟩
  go_wp2_with fail
  go_ret2
  exact ⟨_, _, _, rfl, ho1, hb1⟩

set_option maxRecDepth 100000 in
set_option maxHeartbeats 1000000 in
theorem apartFrom_c (l h l' h' l2 h2 : Nat) (v u x : Value) (ar : List Int) (c d : List Lt) (w : World) (ha : ar.length ≤ 1048576) (hg : goodSign ar = true) (hc : okLits ar c = true) (hd : okLits ar d = true) (hv : SlI l h w v ar) (hu : SlC l' h' w u c) (hx : SlC l2 h2 w x d) :
    Calls Tryz.prog 58 #[.agg #[v], u, x] w (RetCB w (if okLits ar (apartC c d) then apartC c d else []) (okLits ar (apartC c d))) := by
  have hmf : ∀ (fn : Fn) (first cap : Array Value) (w : World), (Instr.makeFunc fn first cap).run Tryz.prog w = .ok (.func fn first cap) w := fun _ _ _ _ => rfl
  obtain ⟨ad, cap, rfl⟩ := hx.form
  have hgc : goodClause ar c = true := by unfold goodClause; rw [hg, hc]; rfl
  have h8 := (okLits_iff.1 hc).1
  have hx0 : d.length ≤ 1048576 := by have := (okLits_iff.1 hd).1; omega
  have ht : ∀ t ∈ flatC d, t.length ≤ 1048576 := fun t h => by have := (flat_rows hd t h).1; omega
  have hsum : sumL (flatC c) ≤ 1048576 := by
    have := sumL_le40 (flatC c) (fun t ht => (okTerm_len (flat_ok (okLits_iff.1 hc).2 ht)).2)
    rw [flatC_len] at this; omega
  have HC0 : Hid (∀ w', Bel w w' → Calls Tryz.prog 107 #[u] w' (RetI w' (natsI (vC c)))) := Lib.hid (fun w' hb => clauseVars_c hsum h8 (flat_low hgc) (hu.below hb))
  have hL := vC_len c
  have hby0 := byC_no (c := c)
  have hby1 := byC_yes (c := c)
  have hlt0 := fun j hj => vC_lt (c := c) (j := j) hj
  have hpr : ∀ i, i + 1 < (vC c).length → (vC c).getD i 0 < (vC c).getD (i+1) 0 := fun i hi => pair_le (varsTo_pair _ _) (Nat.lt_succ_self i) hi
  have hN := byC_le c
  unfold apartC
  have hq := shift_all (byC c) hg hd hN
  clear hgc h8 hu hc hsum
  -- the closure, wherever its two boxes are kept
  have HD := Lib.hid (fun (w' : World) (hb : Bel w w') (g1 : w'.cell? ⟨w.heap.size, 0, none⟩ = some v) (g2 : w'.cell? ⟨w.heap.size + 1, 0, none⟩ = some (.int .i64 (byC c))) =>
    changedS_c l2 h2 (.slice ad d.length cap) w.heap.size (w.heap.size + 1) d w' (fun t => shifted t (byC c)) (fun t => shiftOk ar t (byC c)) hx0 (hx.below hb)
      (fun t hm lo hi y w2 hbb hs => by
        rw [← shiftAns_if]
        exact apartFn_c _ _ _ _ _ _ v y ar t (byC c) w2 ha (ht t hm) hN (hbb.at (World.block_lt_of_cell? _ ⟨_, _, none⟩ g1) g1) (hbb.at (World.block_lt_of_cell? _ ⟨_, _, none⟩ g2) g2) (hv.below (hb.step hbb)) hs)
      (okLits ar (shiftC (byC c) d)) _ hq.symm (by rw [shiftC_zip]))
  clear hq hd ht
  generalize byC c = N at *
  generalize vC c = L0 at *
  generalize (if okLits ar (shiftC N d) = true then shiftC N d else []) = r at *
  generalize okLits ar (shiftC N d) = q at *
  have hA2 := Bel.alloc2 w (.cells #[v] 33) (.cells #[.int .i64 0] 3)
  have k1 := boxc (Bel.alloc0 (w.alloc (.cells #[v] 33)) (.cells #[.int .i64 0] 3)) 0 _ rfl
  have k2 := boxc (Bel.rfl' ((w.alloc (.cells #[v] 33)).alloc (.cells #[.int .i64 0] 3))) 0 _ rfl
  rw [World.size_alloc] at k2
  have kf : ((w.alloc (.cells #[v] 33)).alloc (.cells #[.int .i64 0] 3)).frozen? ⟨w.heap.size + 1, 0, none⟩ = false := by simp [go_sem]
  have hz2 : ((w.alloc (.cells #[v] 33)).alloc (.cells #[.int .i64 0] 3)).heap.size = w.heap.size + 2 := by simp
  have HZ := Lib.hid hz2
  go_enter Tryz.func58, Tryz.ntmps58
  go_wp2_with fail
  refine (HC0.out _ hA2).mono ?_; rintro e w1 ⟨a0, n0, c0, rfl, ho, hb1⟩
  have hn0 : n0 = L0.length := by obtain ⟨_, _, e, _⟩ := ho.sl; simp only [Value.slice.injEq] at e; rw [e.2.1, natsI_len]
  subst hn0
  have m1 := hb1.at (World.block_lt_of_cell? _ ⟨_, _, none⟩ k1) k1
  have m2 := hb1.at (World.block_lt_of_cell? _ ⟨_, _, none⟩ k2) k2
  have mf : w1.frozen? ⟨w.heap.size + 1, 0, none⟩ = false := (hb1.frozen (p := ⟨w.heap.size + 1, 0, none⟩) (by rw [hz2]; show w.heap.size + 1 < _; omega)).trans kf
  have hB1 := hA2.step hb1
  clear hz2
  by_cases h0 : L0.length = 0
  · have HN : N = 0 := hby0 h0
    subst HN
    have HCC := Lib.hid (HD.out _ hB1 m1 m2)
    clear hby0 hby1 hlt0 hpr ho HC0 HD
    generalize L0.length = n0 at *
    subst h0
    go_wp2_with fail
    refine HCC.out.mono ?_; rintro e w2 ⟨a2, n2, c2, rfl, ho2, hb2⟩
    go_wp2_with fail
    go_ret2
    exact ⟨_, _, _, rfl, ho2.mono hB1.size (Nat.le_refl _), hB1.step hb2⟩
  · have HM := Lib.hid (slMax_c _ _ _ L0 w1 (by omega) hL hpr hlt0 ho.sl)
    have HN := Lib.hid (hby1 (by omega))
    have hm12 := hlt0 (L0.length - 1) (by omega)
    have hpos : (0 : Int) < L0.length := by omega
    clear hby0 hby1 hlt0 hpr ho HC0
    generalize L0.getD (L0.length - 1) 0 = m at *
    go_wp2_with fail
    refine HM.out.mono ?_; rintro e w0 ⟨rfl, hbm⟩
    have hB0 := hB1.step hbm
    have q1 := hbm.at (World.block_lt_of_cell? _ ⟨_, _, none⟩ m1) m1
    have q2 := hbm.at (World.block_lt_of_cell? _ ⟨_, _, none⟩ m2) m2
    have qf : w0.frozen? ⟨w.heap.size + 1, 0, none⟩ = false := (hbm.frozen (p := ⟨w.heap.size + 1, 0, none⟩) (World.block_lt_of_cell? _ ⟨_, _, none⟩ m2)).trans mf
    have hNm := HN.out
    clear HN HM
    subst hNm
    have hNi : Hid ((m : Int) + 1 = ((m + 1 : Nat) : Int)) := by show _ = _; omega
    have hB3 : Bel w (w0.setCell ⟨w.heap.size + 1, 0, none⟩ (.int .i64 ((m + 1 : Nat) : Int))) := hB0.set (p := ⟨w.heap.size + 1, 0, none⟩) (by show w.heap.size ≤ w.heap.size + 1; omega) _
    have s1 : (w0.setCell ⟨w.heap.size + 1, 0, none⟩ (.int .i64 ((m + 1 : Nat) : Int))).cell? ⟨w.heap.size, 0, none⟩ = some v := by rw [World.cell?_setCell_other (h := by intro hh; simp at hh)]; exact q1
    have s2 : (w0.setCell ⟨w.heap.size + 1, 0, none⟩ (.int .i64 ((m + 1 : Nat) : Int))).cell? ⟨w.heap.size + 1, 0, none⟩ = some (.int .i64 ((m + 1 : Nat) : Int)) := World.cell?_setCell_same _ _ _ q2
    have HCC := Lib.hid (HD.out _ hB3 s1 s2)
    have hw1 := IntWalk.i64_in ((m : Int) + 1) (by omega)
    clear HD
    go_wp2_with fail
    rw [hNi.out]
    refine HCC.out.mono ?_; rintro e w2 ⟨a2, n2, c2, rfl, ho2, hb2⟩
    go_wp2_with fail
    go_ret2
    exact ⟨_, _, _, rfl, ho2.mono hB3.size (Nat.le_refl _), hB3.step hb2⟩

theorem apAns_len (ar : List Int) (c d : List Lt) : sumC (apAns ar c d) ≤ 1048576 := by
  unfold apAns
  split
  · rename_i hg
    unfold apOk at hg
    simp only [Bool.and_eq_true] at hg
    obtain ⟨h8, hok⟩ := okLits_iff.1 hg.2
    rw [sumC_eq]
    unfold lenC
    have := sumL_le40 (flatC (apartC c d)) (fun t ht => (okTerm_len (flat_ok hok ht)).2)
    rw [flatC_len] at this
    omega
  · simp [sumC]
end Go.Proofs.YtikllmdmifecpaaGreatDoor
end
section
/- A law's helpers for worlds: sizes, copies, marks. -/
namespace Go.Proofs.YtikllmdmifecpaaGreatDoor
open Go.RowKit

theorem cell_ko {w : World} {b off : Nat} {v : Value} (h : b < w.heap.size ∧ w.cell? ⟨b, off, none⟩ = some v) : K (fun w => b < w.heap.size ∧ w.cell? ⟨b, off, none⟩ = some v) w :=
  fun _ hb => ⟨Nat.lt_of_lt_of_le h.1 hb.size, hb.at h.1 h.2⟩
theorem boxk1 {w w' : World} {cs : Array Value} {t : TypeId} (hb : Bel (w.alloc (.cells cs t)) w') (v : Value) (hv : cs[1]? = some v) : w.heap.size < w'.heap.size ∧ w'.cell? ⟨w.heap.size, 1, none⟩ = some v :=
  ⟨by have := hb.size; simp at this; omega, boxc hb 1 v hv⟩
theorem boxk2 {w w' : World} {o : Obj} {cs : Array Value} {t : TypeId} (hb : Bel ((w.alloc o).alloc (.cells cs t)) w') (i : Nat) (v : Value) (hv : cs[i]? = some v) : w.heap.size + 1 < w'.heap.size ∧ w'.cell? ⟨w.heap.size + 1, i, none⟩ = some v :=
  ⟨by have := hb.size; simp at this; omega, by have := boxc hb i v hv; simpa using this⟩

/-- A world of the call's own. -/
def RetW (w : World) (z : Int) (tb : List (List Int)) (e : Ending) (w' : World) : Prop := ∃ ad n c, e = .returned (.agg #[.int .i64 z, .slice ad n c]) ∧ OwnS w.heap.size w'.heap.size w' (.slice ad n c) tb ∧ Bel w w'
def RetWB (w : World) (z : Int) (tb : List (List Int)) (ok : Bool) (e : Ending) (w' : World) : Prop := ∃ ad n c, e = .returned (.tuple #[.agg #[.int .i64 z, .slice ad n c], .bool ok]) ∧ OwnS w.heap.size w'.heap.size w' (.slice ad n c) tb ∧ Bel w w'
theorem OwnS.set {lo hi w v xss} (h : OwnS lo hi w v xss) {p : Addr} (hp : p.block < lo ∨ hi ≤ p.block) (u : Value) : OwnS lo hi (w.setCell p u) v xss :=
  h.same fun b h1 h2 _ => Below.heap_setCell w p u b (by omega)

end Go.Proofs.YtikllmdmifecpaaGreatDoor
end
section
/- Chapter 6: Factor, both programs. -/
namespace Go.Proofs.YtikllmdmifecpaaGreatDoor
open Go.RowKit

set_option maxRecDepth 100000 in
set_option maxHeartbeats 1000000 in
theorem sFactor_t {l h l' h' : Nat} {v u : Value} {ar : List Int} {c : List Lt} {w : World} (wy : Wy) (ha : ar.length ≤ 1048576) (hv : SlI l h w v ar) (hc : sumC c ≤ 1048576) (hu : SlC l' h' w u c) :
    Calls Tryz.prog 23 #[.agg #[v], u, .agg #[.int .i64 wy.1, .int .i64 wy.2.1, .int .i64 wy.2.2.1, .int .i64 wy.2.2.2.1, .int .i64 wy.2.2.2.2]] w (RetCNB w (facAns ar c wy) (facNo ar c wy) (goodClause ar c)) := by
  unfold facAns facNo
  cases hs : goodClause ar c with
  | false =>
    rw [if_neg (by simp), if_neg (by simp)]
    have HS := Lib.hid hs; clear hs
    obtain ⟨wi, ws, wj, wo, wa⟩ := wy
    dsimp only
    go_enter Tryz.func23, Tryz.ntmps23
    go_wp2_with fail
    have B2 : Bel w ((w.alloc (.cells #[v] 33)).alloc (.cells #[.int .i64 wi, .int .i64 ws, .int .i64 wj, .int .i64 wo, .int .i64 wa] 36)) := Bel.alloc2 _ _ _
    refine (sGoodClause_v HS.out ha (hv.below B2) hc (hu.below B2)).mono ?_; rintro e w1 ⟨rfl, hb1⟩
    go_wp2_with fail
    go_ret3
    exact ⟨_, _, _, rfl, OwnC.nil _ _ _, B2.step hb1⟩
  | true =>
    rw [if_pos rfl, if_pos rfl]
    have hg := (goodClause_iff.1 hs).1
    have hq1 : okLits ar c = true := by unfold goodClause at hs; exact (Bool.and_eq_true_iff.1 hs).2
    have HA := Lib.hid (fun (w' : World) (hb' : Bel w w') => l6Factor_c _ _ _ _ v u ar c wy w' hg hq1 (hv.below hb') (hu.below hb'))
    have HS := Lib.hid hs; clear hs
    generalize facA ar c wy = RR at *
    obtain ⟨r, n⟩ := RR
    obtain ⟨wi, ws, wj, wo, wa⟩ := wy
    dsimp only at *
    generalize concl r = R at *
    go_enter Tryz.func23, Tryz.ntmps23
    go_wp2_with fail
    have B2 : Bel w ((w.alloc (.cells #[v] 33)).alloc (.cells #[.int .i64 wi, .int .i64 ws, .int .i64 wj, .int .i64 wo, .int .i64 wa] 36)) := Bel.alloc2 _ _ _
    refine (sGoodClause_v HS.out ha (hv.below B2) hc (hu.below B2)).mono ?_; rintro e w1 ⟨rfl, hb1⟩
    have x0 := (boxk hb1.of_alloc _ rfl).2
    have x1 := (boxk2 hb1 0 _ rfl).2
    have x2 := (boxk2 hb1 1 _ rfl).2
    have x3 := (boxk2 hb1 2 _ rfl).2
    have x4 := (boxk2 hb1 3 _ rfl).2
    have x5 := (boxk2 hb1 4 _ rfl).2
    have BB := B2.step hb1
    go_wp2_with fail
    refine (HA.out _ BB).mono ?_; rintro e w2 ⟨a2, n2, c2, rfl, ho2, hb2⟩
    go_wp2_with fail
    go_ret3
    exact ⟨_, _, _, rfl, ho2.mono BB.size (Nat.le_refl _), BB.step hb2⟩

set_option maxRecDepth 100000 in
set_option maxHeartbeats 1000000 in
theorem iFactor_t {l h l' h' : Nat} {v u : Value} {ar : List Int} {c : List Lt} {w : World} (wy : Wy) (hT : Tab w) (ha : ar.length ≤ 1048576) (hv : SlI l h w v ar) (hc : sumC c ≤ 1048576) (hu : SlC l' h' w u c) :
    Calls Tryz.prog 24 #[.agg #[v], u, .agg #[.int .i64 wy.1, .int .i64 wy.2.1, .int .i64 wy.2.2.1, .int .i64 wy.2.2.2.1, .int .i64 wy.2.2.2.2]] w (RetCNB w (facAns ar c wy) (facNo ar c wy) (goodClause ar c)) := by
  unfold facAns facNo
  cases hs : goodClause ar c with
  | false =>
    rw [if_neg (by simp), if_neg (by simp)]
    have HS := Lib.hid hs; clear hs
    obtain ⟨wi, ws, wj, wo, wa⟩ := wy
    dsimp only
    go_enter Tryz.func24, Tryz.ntmps24
    go_wp2_with fail
    have B2 : Bel w ((w.alloc (.cells #[v] 33)).alloc (.cells #[.int .i64 wi, .int .i64 ws, .int .i64 wj, .int .i64 wo, .int .i64 wa] 36)) := Bel.alloc2 _ _ _
    refine (iGoodClause_v HS.out ha (hv.below B2) hc (hu.below B2)).mono ?_; rintro e w1 ⟨rfl, hb1⟩
    go_wp2_with fail
    go_ret3
    exact ⟨_, _, _, rfl, OwnC.nil _ _ _, B2.step hb1⟩
  | true =>
    rw [if_pos rfl, if_pos rfl]
    have hg := (goodClause_iff.1 hs).1
    have hq1 : okLits ar c = true := by unfold goodClause at hs; exact (Bool.and_eq_true_iff.1 hs).2
    have HA := Lib.hid (fun (w' : World) (hb' : Bel w w') => factored_c _ _ _ _ v u ar c wy w' (hT.bel hb') ha hg hq1 (hv.below hb') (hu.below hb'))
    have hrok := facA_ok ar c wy
    have HCN := Lib.hid (fun (w' : World) (y : Value) (lo hi : Nat) (hy : SlC lo hi w' y (facA ar c wy).1) => concluded_c lo hi y ar _ w' hg hrok hy)
    clear hrok
    have HS := Lib.hid hs; clear hs
    generalize facA ar c wy = RR at *
    obtain ⟨r, n⟩ := RR
    obtain ⟨wi, ws, wj, wo, wa⟩ := wy
    dsimp only at *
    generalize concl r = R at *
    go_enter Tryz.func24, Tryz.ntmps24
    go_wp2_with fail
    have B2 : Bel w ((w.alloc (.cells #[v] 33)).alloc (.cells #[.int .i64 wi, .int .i64 ws, .int .i64 wj, .int .i64 wo, .int .i64 wa] 36)) := Bel.alloc2 _ _ _
    refine (iGoodClause_v HS.out ha (hv.below B2) hc (hu.below B2)).mono ?_; rintro e w1 ⟨rfl, hb1⟩
    have x0 := (boxk hb1.of_alloc _ rfl).2
    have x1 := (boxk2 hb1 0 _ rfl).2
    have x2 := (boxk2 hb1 1 _ rfl).2
    have x3 := (boxk2 hb1 2 _ rfl).2
    have x4 := (boxk2 hb1 3 _ rfl).2
    have x5 := (boxk2 hb1 4 _ rfl).2
    have BB := B2.step hb1
    go_wp2_with fail
    refine (HA.out _ BB).mono ?_; rintro e w2 ⟨a2, n2, c2, rfl, ho2, hb2⟩
    have HCC := Lib.hid (HCN.out _ _ _ _ ho2)
    clear HCN
    go_wp2_with fail
    refine HCC.out.mono ?_; rintro e w3 ⟨a3, n3, c3, rfl, ho3, hb3⟩
    go_wp2_with fail
    go_ret3
    exact ⟨_, _, _, rfl, ho3.mono (BB.step hb2).size (Nat.le_refl _), (BB.step hb2).step hb3⟩
end Go.Proofs.YtikllmdmifecpaaGreatDoor
end
section
/- Chapter 6: Superpose, both sides. -/
namespace Go.Proofs.YtikllmdmifecpaaGreatDoor
open Go.RowKit

set_option maxRecDepth 100000 in
set_option maxHeartbeats 1000000 in
theorem sSuperpose_t {l h l1 h1 l2 h2 : Nat} {v u x : Value} {ar : List Int} {c d : List Lt} {w : World} (wy : Wy) (ha : ar.length ≤ 1048576) (hv : SlI l h w v ar) (hc : sumC c ≤ 1048576) (hu : SlC l1 h1 w u c) (hd : sumC d ≤ 1048576) (hx : SlC l2 h2 w x d) :
    Calls Tryz.prog 11 #[.agg #[v], u, x, .agg #[.int .i64 wy.1, .int .i64 wy.2.1, .int .i64 wy.2.2.1, .int .i64 wy.2.2.2.1, .int .i64 wy.2.2.2.2]] w (RetCNB w (supAns ar c d wy) (supNo ar c d wy) (supOK ar c d)) := by
  unfold supAns supNo supOK
  cases hs : goodClause ar c with
  | false =>
    rw [Bool.false_and, if_neg (by simp), if_neg (by simp)]
    have HS := Lib.hid hs; clear hs
    obtain ⟨wi, ws, wj, wo, wa⟩ := wy
    dsimp only
    go_enter Tryz.func11, Tryz.ntmps11
    go_wp2_with fail
    have B2 := (Bel.alloc2 _ _ _ : Bel w ((w.alloc (.cells #[v] 33)).alloc (.cells #[.int .i64 wi, .int .i64 ws, .int .i64 wj, .int .i64 wo, .int .i64 wa] 36)))
    refine (sGoodClause_v HS.out ha (hv.below B2) hc (hu.below B2)).mono ?_; rintro e w1 ⟨rfl, hb1⟩
    go_wp2_with fail
    go_ret3
    exact ⟨_, _, _, rfl, OwnC.nil _ _ _, B2.step hb1⟩
  | true =>
    rw [Bool.true_and]
    have hg := (goodClause_iff.1 hs).1
    have hq1 : okLits ar c = true := by unfold goodClause at hs; exact (Bool.and_eq_true_iff.1 hs).2
    have HS := Lib.hid hs; clear hs
    have hgd : goodClause ar d = okLits ar d := by unfold goodClause; rw [hg, Bool.true_and]
    have hsc := shortC_of_sum hd
    cases hq : okLits ar d with
    | false =>
      rw [if_neg (by simp), if_neg (by simp)]
      have HQ := Lib.hid (hq); clear hq hq1 hgd
      obtain ⟨wi, ws, wj, wo, wa⟩ := wy
      dsimp only
      go_enter Tryz.func11, Tryz.ntmps11
      go_wp2_with fail
      have B2 := (Bel.alloc2 _ _ _ : Bel w ((w.alloc (.cells #[v] 33)).alloc (.cells #[.int .i64 wi, .int .i64 ws, .int .i64 wj, .int .i64 wo, .int .i64 wa] 36)))
      refine (sGoodClause_v HS.out ha (hv.below B2) hc (hu.below B2)).mono ?_; rintro e w1 ⟨rfl, hb1⟩
      have x0 := (boxk hb1.of_alloc _ rfl).2
      have x1 := (boxk2 hb1 0 _ rfl).2
      have x2 := (boxk2 hb1 1 _ rfl).2
      have x3 := (boxk2 hb1 2 _ rfl).2
      have x4 := (boxk2 hb1 3 _ rfl).2
      have x5 := (boxk2 hb1 4 _ rfl).2
      go_wp2_with fail
      refine (l4Clause_v _ _ _ _ _ _ ar d false _ HQ.out hg hsc (hv.below (B2.step hb1)) (hx.below (B2.step hb1))).mono ?_; rintro e w2 ⟨rfl, hb2⟩
      go_wp2_with fail
      go_ret3
      exact ⟨_, _, _, rfl, OwnC.nil _ _ _, (B2.step hb1).step hb2⟩
    | true =>
      rw [if_pos rfl, if_pos rfl]
      have HA := Lib.hid (fun (w' : World) (hb' : Bel w w') => l6Super_c _ _ _ _ _ _ v u x ar c d wy w' hg hq1 hq (hv.below hb') (hu.below hb') (hx.below hb'))
      have HQ := Lib.hid (hq); clear hq hq1 hgd
      generalize supR ar c d wy = RR at *
      obtain ⟨r, n⟩ := RR
      obtain ⟨wi, ws, wj, wo, wa⟩ := wy
      dsimp only at *
      generalize concl r = R at *
      go_enter Tryz.func11, Tryz.ntmps11
      go_wp2_with fail
      have B2 := (Bel.alloc2 _ _ _ : Bel w ((w.alloc (.cells #[v] 33)).alloc (.cells #[.int .i64 wi, .int .i64 ws, .int .i64 wj, .int .i64 wo, .int .i64 wa] 36)))
      refine (sGoodClause_v HS.out ha (hv.below B2) hc (hu.below B2)).mono ?_; rintro e w1 ⟨rfl, hb1⟩
      have x0 := (boxk hb1.of_alloc _ rfl).2
      have x1 := (boxk2 hb1 0 _ rfl).2
      have x2 := (boxk2 hb1 1 _ rfl).2
      have x3 := (boxk2 hb1 2 _ rfl).2
      have x4 := (boxk2 hb1 3 _ rfl).2
      have x5 := (boxk2 hb1 4 _ rfl).2
      go_wp2_with fail
      refine (l4Clause_v _ _ _ _ _ _ ar d true _ HQ.out hg hsc (hv.below (B2.step hb1)) (hx.below (B2.step hb1))).mono ?_; rintro e w2 ⟨rfl, hb2⟩
      have x0 := (boxk (hb1.step hb2).of_alloc _ rfl).2
      have x1 := (boxk2 (hb1.step hb2) 0 _ rfl).2
      have x2 := (boxk2 (hb1.step hb2) 1 _ rfl).2
      have x3 := (boxk2 (hb1.step hb2) 2 _ rfl).2
      have x4 := (boxk2 (hb1.step hb2) 3 _ rfl).2
      have x5 := (boxk2 (hb1.step hb2) 4 _ rfl).2
      have BB := (B2.step hb1).step hb2
      go_wp2_with fail
      refine (HA.out _ BB).mono ?_; rintro e w3 ⟨a2, n2, c2, rfl, ho2, hb3⟩
      go_wp2_with fail
      go_ret3
      exact ⟨_, _, _, rfl, ho2.mono BB.size (Nat.le_refl _), BB.step hb3⟩

set_option maxRecDepth 100000 in
set_option maxHeartbeats 1000000 in
theorem iSuperpose_t {l h l1 h1 l2 h2 : Nat} {v u x : Value} {ar : List Int} {c d : List Lt} {w : World} (wy : Wy) (hT : Tab w) (ha : ar.length ≤ 1048576) (hv : SlI l h w v ar) (hc : sumC c ≤ 1048576) (hu : SlC l1 h1 w u c) (hd : sumC d ≤ 1048576) (hx : SlC l2 h2 w x d) :
    Calls Tryz.prog 15 #[.agg #[v], u, x, .agg #[.int .i64 wy.1, .int .i64 wy.2.1, .int .i64 wy.2.2.1, .int .i64 wy.2.2.2.1, .int .i64 wy.2.2.2.2]] w (RetCNB w (supAns ar c d wy) (supNo ar c d wy) (supOK ar c d)) := by
  unfold supAns supNo supOK
  cases hs : goodClause ar c with
  | false =>
    rw [Bool.false_and, if_neg (by simp), if_neg (by simp)]
    have HS := Lib.hid hs; clear hs
    obtain ⟨wi, ws, wj, wo, wa⟩ := wy
    dsimp only
    go_enter Tryz.func15, Tryz.ntmps15
    go_wp2_with fail
    have B2 := (Bel.alloc2 _ _ _ : Bel w ((w.alloc (.cells #[v] 33)).alloc (.cells #[.int .i64 wi, .int .i64 ws, .int .i64 wj, .int .i64 wo, .int .i64 wa] 36)))
    refine (iGoodClause_v HS.out ha (hv.below B2) hc (hu.below B2)).mono ?_; rintro e w1 ⟨rfl, hb1⟩
    go_wp2_with fail
    go_ret3
    exact ⟨_, _, _, rfl, OwnC.nil _ _ _, B2.step hb1⟩
  | true =>
    rw [Bool.true_and]
    have hg := (goodClause_iff.1 hs).1
    have hq1 : okLits ar c = true := by unfold goodClause at hs; exact (Bool.and_eq_true_iff.1 hs).2
    have HS := Lib.hid hs; clear hs
    have hgd : goodClause ar d = okLits ar d := by unfold goodClause; rw [hg, Bool.true_and]
    cases hq : okLits ar d with
    | false =>
      rw [if_neg (by simp), if_neg (by simp)]
      have HQ := Lib.hid (hgd.trans hq); clear hq hq1 hgd
      obtain ⟨wi, ws, wj, wo, wa⟩ := wy
      dsimp only
      go_enter Tryz.func15, Tryz.ntmps15
      go_wp2_with fail
      have B2 := (Bel.alloc2 _ _ _ : Bel w ((w.alloc (.cells #[v] 33)).alloc (.cells #[.int .i64 wi, .int .i64 ws, .int .i64 wj, .int .i64 wo, .int .i64 wa] 36)))
      refine (iGoodClause_v HS.out ha (hv.below B2) hc (hu.below B2)).mono ?_; rintro e w1 ⟨rfl, hb1⟩
      have x0 := (boxk hb1.of_alloc _ rfl).2
      have x1 := (boxk2 hb1 0 _ rfl).2
      have x2 := (boxk2 hb1 1 _ rfl).2
      have x3 := (boxk2 hb1 2 _ rfl).2
      have x4 := (boxk2 hb1 3 _ rfl).2
      have x5 := (boxk2 hb1 4 _ rfl).2
      go_wp2_with fail
      refine (iGoodClause_v HQ.out ha (hv.below (B2.step hb1)) hd (hx.below (B2.step hb1))).mono ?_; rintro e w2 ⟨rfl, hb2⟩
      go_wp2_with fail
      go_ret3
      exact ⟨_, _, _, rfl, OwnC.nil _ _ _, (B2.step hb1).step hb2⟩
    | true =>
      rw [if_pos rfl, if_pos rfl]
      have h8 := (okLits_iff.1 hq1).1
      have hsd := okLits_short hq
      cases hin : supIn c d wy with
      | false =>
        rw [supR_none hin]
        have HC := Lib.hid (fun (w' : World) (hb : Bel w w') => canSuperpose_c _ _ _ _ u x c d wy false w' hin (by omega) hsd (hu.below hb) (hx.below hb))
        have HQ := Lib.hid (hgd.trans hq); clear hq hq1 hgd hin hsd h8
        obtain ⟨wi, ws, wj, wo, wa⟩ := wy
        dsimp only at *
        go_enter Tryz.func15, Tryz.ntmps15
        go_wp2_with fail
        have B2 := (Bel.alloc2 _ _ _ : Bel w ((w.alloc (.cells #[v] 33)).alloc (.cells #[.int .i64 wi, .int .i64 ws, .int .i64 wj, .int .i64 wo, .int .i64 wa] 36)))
        refine (iGoodClause_v HS.out ha (hv.below B2) hc (hu.below B2)).mono ?_; rintro e w1 ⟨rfl, hb1⟩
        have x0 := (boxk hb1.of_alloc _ rfl).2
        have x1 := (boxk2 hb1 0 _ rfl).2
        have x2 := (boxk2 hb1 1 _ rfl).2
        have x3 := (boxk2 hb1 2 _ rfl).2
        have x4 := (boxk2 hb1 3 _ rfl).2
        have x5 := (boxk2 hb1 4 _ rfl).2
        go_wp2_with fail
        refine (iGoodClause_v HQ.out ha (hv.below (B2.step hb1)) hd (hx.below (B2.step hb1))).mono ?_; rintro e w2 ⟨rfl, hb2⟩
        have x0 := (boxk (hb1.step hb2).of_alloc _ rfl).2
        have x1 := (boxk2 (hb1.step hb2) 0 _ rfl).2
        have x2 := (boxk2 (hb1.step hb2) 1 _ rfl).2
        have x3 := (boxk2 (hb1.step hb2) 2 _ rfl).2
        have x4 := (boxk2 (hb1.step hb2) 3 _ rfl).2
        have x5 := (boxk2 (hb1.step hb2) 4 _ rfl).2
        have BB := (B2.step hb1).step hb2
        go_wp2_with fail
        refine (HC.out _ BB).mono ?_; rintro e w3 ⟨rfl, hb3⟩
        go_wp2_with fail
        go_ret3
        exact ⟨_, _, _, rfl, OwnC.nil _ _ _, BB.step hb3⟩
      | true =>
        have HC := Lib.hid (fun (w' : World) (hb : Bel w w') => canSuperpose_c _ _ _ _ u x c d wy true w' hin (by omega) hsd (hu.below hb) (hx.below hb))
        have HAP := Lib.hid (fun (w' : World) (hb : Bel w w') => apartFrom_c _ _ _ _ _ _ v u x ar c d w' ha hg hq1 hq (hv.below hb) (hu.below hb) (hx.below hb))
        cases hap : okLits ar (apartC c d) with
        | false =>
          rw [supR_vars hin hap]
          rw [hap] at HAP
          rw [if_neg (by simp)] at HAP
          have HQ := Lib.hid (hgd.trans hq); clear hq hq1 hgd hin hsd h8 hap
          obtain ⟨wi, ws, wj, wo, wa⟩ := wy
          dsimp only at *
          go_enter Tryz.func15, Tryz.ntmps15
          go_wp2_with fail
          have B2 := (Bel.alloc2 _ _ _ : Bel w ((w.alloc (.cells #[v] 33)).alloc (.cells #[.int .i64 wi, .int .i64 ws, .int .i64 wj, .int .i64 wo, .int .i64 wa] 36)))
          refine (iGoodClause_v HS.out ha (hv.below B2) hc (hu.below B2)).mono ?_; rintro e w1 ⟨rfl, hb1⟩
          have x0 := (boxk hb1.of_alloc _ rfl).2
          have x1 := (boxk2 hb1 0 _ rfl).2
          have x2 := (boxk2 hb1 1 _ rfl).2
          have x3 := (boxk2 hb1 2 _ rfl).2
          have x4 := (boxk2 hb1 3 _ rfl).2
          have x5 := (boxk2 hb1 4 _ rfl).2
          go_wp2_with fail
          refine (iGoodClause_v HQ.out ha (hv.below (B2.step hb1)) hd (hx.below (B2.step hb1))).mono ?_; rintro e w2 ⟨rfl, hb2⟩
          have x0 := (boxk (hb1.step hb2).of_alloc _ rfl).2
          have x1 := (boxk2 (hb1.step hb2) 0 _ rfl).2
          have x2 := (boxk2 (hb1.step hb2) 1 _ rfl).2
          have x3 := (boxk2 (hb1.step hb2) 2 _ rfl).2
          have x4 := (boxk2 (hb1.step hb2) 3 _ rfl).2
          have x5 := (boxk2 (hb1.step hb2) 4 _ rfl).2
          have BB := (B2.step hb1).step hb2
          go_wp2_with fail
          refine (HC.out _ BB).mono ?_; rintro e w3 ⟨rfl, hb3⟩
          have x0 := (boxk ((hb1.step hb2).step hb3).of_alloc _ rfl).2
          have x1 := (boxk2 ((hb1.step hb2).step hb3) 0 _ rfl).2
          have x2 := (boxk2 ((hb1.step hb2).step hb3) 1 _ rfl).2
          have x3 := (boxk2 ((hb1.step hb2).step hb3) 2 _ rfl).2
          have x4 := (boxk2 ((hb1.step hb2).step hb3) 3 _ rfl).2
          have x5 := (boxk2 ((hb1.step hb2).step hb3) 4 _ rfl).2
          go_wp2_with fail
          refine (HAP.out _ (BB.step hb3)).mono ?_; rintro e w4 ⟨a4, n4, c4, rfl, ho4, hb4⟩
          go_wp2_with fail
          go_ret3
          exact ⟨_, _, _, rfl, OwnC.nil _ _ _, (BB.step hb3).step hb4⟩
        | true =>
          rw [supR_go hin hap]
          rw [hap] at HAP
          rw [if_pos rfl] at HAP
          have hin2 : supIn c (apartC c d) wy = true := (supIn_apart c d wy).trans hin
          have HSU := Lib.hid (fun (w' : World) (y : Value) (lo hi : Nat) (hb : Bel w w') (hy : SlC lo hi w' y (apartC c d)) => superposed_c _ _ _ _ _ _ v u y ar c (apartC c d) wy w' (hT.bel hb) ha hg hq1 hap hin2 (hv.below hb) (hu.below hb) hy)
          have hrok : okLits ar (supE ar c (apartC c d) wy).1 = true := by have := supR_ok ar c d wy; rw [supR_go hin hap] at this; exact this
          have HCN := Lib.hid (fun (w' : World) (y : Value) (lo hi : Nat) (hy : SlC lo hi w' y (supE ar c (apartC c d) wy).1) => concluded_c lo hi y ar _ w' hg hrok hy)
          have HQ := Lib.hid (hgd.trans hq); clear hq hq1 hgd hin hsd h8 hap hin2 hrok
          generalize supE ar c (apartC c d) wy = RR at *
          obtain ⟨r, n⟩ := RR
          dsimp only at *
          generalize concl r = R at *
          generalize apartC c d = E2 at *
          obtain ⟨wi, ws, wj, wo, wa⟩ := wy
          dsimp only at *
          go_enter Tryz.func15, Tryz.ntmps15
          go_wp2_with fail
          have B2 := (Bel.alloc2 _ _ _ : Bel w ((w.alloc (.cells #[v] 33)).alloc (.cells #[.int .i64 wi, .int .i64 ws, .int .i64 wj, .int .i64 wo, .int .i64 wa] 36)))
          refine (iGoodClause_v HS.out ha (hv.below B2) hc (hu.below B2)).mono ?_; rintro e w1 ⟨rfl, hb1⟩
          have x0 := (boxk hb1.of_alloc _ rfl).2
          have x1 := (boxk2 hb1 0 _ rfl).2
          have x2 := (boxk2 hb1 1 _ rfl).2
          have x3 := (boxk2 hb1 2 _ rfl).2
          have x4 := (boxk2 hb1 3 _ rfl).2
          have x5 := (boxk2 hb1 4 _ rfl).2
          go_wp2_with fail
          refine (iGoodClause_v HQ.out ha (hv.below (B2.step hb1)) hd (hx.below (B2.step hb1))).mono ?_; rintro e w2 ⟨rfl, hb2⟩
          have x0 := (boxk (hb1.step hb2).of_alloc _ rfl).2
          have x1 := (boxk2 (hb1.step hb2) 0 _ rfl).2
          have x2 := (boxk2 (hb1.step hb2) 1 _ rfl).2
          have x3 := (boxk2 (hb1.step hb2) 2 _ rfl).2
          have x4 := (boxk2 (hb1.step hb2) 3 _ rfl).2
          have x5 := (boxk2 (hb1.step hb2) 4 _ rfl).2
          have BB := (B2.step hb1).step hb2
          go_wp2_with fail
          refine (HC.out _ BB).mono ?_; rintro e w3 ⟨rfl, hb3⟩
          have x0 := (boxk ((hb1.step hb2).step hb3).of_alloc _ rfl).2
          have x1 := (boxk2 ((hb1.step hb2).step hb3) 0 _ rfl).2
          have x2 := (boxk2 ((hb1.step hb2).step hb3) 1 _ rfl).2
          have x3 := (boxk2 ((hb1.step hb2).step hb3) 2 _ rfl).2
          have x4 := (boxk2 ((hb1.step hb2).step hb3) 3 _ rfl).2
          have x5 := (boxk2 ((hb1.step hb2).step hb3) 4 _ rfl).2
          go_wp2_with fail
          refine (HAP.out _ (BB.step hb3)).mono ?_; rintro e w4 ⟨a4, n4, c4, rfl, ho4, hb4⟩
          have x0 := (boxk (((hb1.step hb2).step hb3).step hb4).of_alloc _ rfl).2
          have x1 := (boxk2 (((hb1.step hb2).step hb3).step hb4) 0 _ rfl).2
          have x2 := (boxk2 (((hb1.step hb2).step hb3).step hb4) 1 _ rfl).2
          have x3 := (boxk2 (((hb1.step hb2).step hb3).step hb4) 2 _ rfl).2
          have x4 := (boxk2 (((hb1.step hb2).step hb3).step hb4) 3 _ rfl).2
          have x5 := (boxk2 (((hb1.step hb2).step hb3).step hb4) 4 _ rfl).2
          have BX := (BB.step hb3).step hb4
          have HSS := Lib.hid (HSU.out _ _ _ _ BX ho4.sl)
          clear HSU
          go_wp2_with fail
          refine HSS.out.mono ?_; rintro e w5 ⟨a5, n5, c5, rfl, ho5, hb5⟩
          have HCC := Lib.hid (HCN.out _ _ _ _ ho5)
          clear HCN
          go_wp2_with fail
          refine HCC.out.mono ?_; rintro e w6 ⟨a6, n6, c6, rfl, ho6, hb6⟩
          go_wp2_with fail
          go_ret3
          exact ⟨_, _, _, rfl, ho6.mono (BX.step hb5).size (Nat.le_refl _), (BX.step hb5).step hb6⟩
end Go.Proofs.YtikllmdmifecpaaGreatDoor
end
