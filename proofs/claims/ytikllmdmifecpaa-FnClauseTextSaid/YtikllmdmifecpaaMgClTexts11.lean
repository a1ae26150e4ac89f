/- Texts merged, part 11. -/
import Derived.Test.YtikllmdmifecpaaProg
import Derived.Ground.NamesProg
import Derived.Shelf.Lay
import Derived.Room.Shelf.Join48
import Derived.KernelRfl
import Derived.Test.YtikllmdmifecpaaMgClTexts10
section
/- Chapter 4, the program: GoodClause, WeightOf. -/
namespace Go.Proofs.Ytikllmdmifecpaa
open Go.RowKit

theorem short_flat {c : List Lt} (h : sumC c ≤ 1048576) : sumL (flatC c) ≤ 1048576 ∧ ∀ j, j < (flatC c).length → ((flatC c).getD j []).length ≤ 1048576 := by
  have h1 : sumL (flatC c) ≤ 1048576 := by have := sumC_eq c; unfold lenC at this; omega
  exact ⟨h1, fun j hj => by have := sumL_get (flatC c) j hj; omega⟩
theorem short_flat8 {c : List Lt} (h : sumC c ≤ 1048576) (h8 : c.length ≤ 8) : short (flatC c) := ⟨by rw [flatC_len]; omega, (short_flat h).2⟩

theorem short_flat8s {c : List Lt} (h : shortC c) (h8 : c.length ≤ 8) : short (flatC c) := by
  refine ⟨by rw [flatC_len]; omega, fun j hj => ?_⟩
  obtain ⟨x, hx, e⟩ := flat_mem (mem_getD (flatC c) [] j hj)
  obtain ⟨i, hi, rfl⟩ := List.getElem_of_mem hx
  have := h.2 i hi
  rw [show c.getD i lt0 = c[i] from by simp [List.getD, hi]] at this
  rcases e with e | e <;> rw [e]
  · exact this.1
  · exact this.2

set_option maxRecDepth 100000 in
set_option maxHeartbeats 400000 in
theorem iGoodClause_sh {l h l' h' : Nat} {v u : Value} {ar : List Int} {c : List Lt} {w : World} (ha : ar.length ≤ 1048576) (hv : SlI l h w v ar) (hc : shortC c) (hu : SlC l' h' w u c) :
    Calls Try.prog 53 #[.agg #[v], u] w (RetV w (.bool (goodClause ar c))) := by
  obtain ⟨ad, cap, rfl⟩ := hu.form
  have hle := hc.1
  by_cases h8 : c.length ≤ 8
  · have hd : decide ((c.length : Int) ≤ 8) = true := by rw [decide_eq_true]; omega
    have HE := Lib.hid (goodTerms_flat ar h8)
    have hsh := short_flat8s hc h8
    have HT := Lib.hid (fun (w' : World) (hb : Bel w w') => termsIn_c l' h' _ c w' (by omega) (hu.below hb))
    have HD := Lib.hid (fun (w' : World) (x : Value) (hb : Bel w w') (hx : SlS 0 w'.heap.size w' x (flatC c)) => goodTerms_c l h _ _ v x ar (flatC c) 16 w' (by omega) ha (hv.below hb) hsh hx)
    rw [HE.out] at HD
    clear hsh hle hu hv HE h8
    have HB0 : Bel w (w.alloc (.cells #[v] 29)).drew := (Bel.alloc0 _ _).drew
    have hbox0 : (w.alloc (.cells #[v] 29)).drew.cell? ⟨w.heap.size, 0, none⟩ = some v := boxc ((Bel.rfl' _).drew) 0 _ rfl
    go_enter Try.func53, Try.ntmps53
    go_wp2_with fail
    go_region_held3 (fun w' => Bel w w' ∧ w'.cell? ⟨w.heap.size, 0, none⟩ = some v)
      (first | exact ⟨HB2, hbox2⟩ | exact ⟨HB1, hbox1⟩ | exact ⟨HB0, hbox0⟩ | fail)
      (first | (go_at_call 103; refine (HD.out _ _ HB1 hrow).mono ?_; rintro e w2 ⟨rfl, hb2⟩; have HB2 := HB1.step hb2; have hbox2 := hb2.at (World.block_lt_of_cell? _ ⟨_, _, none⟩ hbox1) hbox1) | (go_at_call 104; refine (HT.out _ HB0).mono ?_; rintro e w1 ⟨ad1, n1, c1, rfl, hrw, hb1⟩; have HB1 := HB0.step hb1; have hbox1 := hb1.at (World.block_lt_of_cell? _ ⟨_, _, none⟩ hbox0) hbox0; have hrow := hrw.sls hb1) | fail)
    go_wp2_with fail
    go_ret
    exact ⟨rfl, HB2⟩
  · have hd : decide ((c.length : Int) ≤ 8) = false := by rw [decide_eq_false]; omega
    have E := Lib.hid (goodClause_long ar h8)
    clear h8
    go_enter Try.func53, Try.ntmps53
    go_wp2_with fail
    have hbox0 : (w.alloc (.cells #[v] 29)).drew.cell? ⟨w.heap.size, 0, none⟩ = some v := boxc ((Bel.rfl' _).drew) 0 _ rfl
    go_region
    all_goals
      go_wp2_with fail
      go_ret
      exact ⟨by rw [E.out]; rfl, (Bel.alloc0 _ _).drew⟩
theorem iGoodClause_t {l h l' h' : Nat} {v u : Value} {ar : List Int} {c : List Lt} {w : World} (ha : ar.length ≤ 1048576) (hv : SlI l h w v ar) (hc : sumC c ≤ 1048576) (hu : SlC l' h' w u c) :
    Calls Try.prog 53 #[.agg #[v], u] w (RetV w (.bool (goodClause ar c))) := iGoodClause_sh ha hv (shortC_of_sum hc) hu
theorem iGoodClause_v {l h l' h' : Nat} {v u : Value} {ar : List Int} {c : List Lt} {w : World} {q : Bool} (he : goodClause ar c = q) (ha : ar.length ≤ 1048576) (hv : SlI l h w v ar) (hc : sumC c ≤ 1048576) (hu : SlC l' h' w u c) :
    Calls Try.prog 53 #[.agg #[v], u] w (RetV w (.bool q)) := by subst he; exact iGoodClause_t ha hv hc hu

set_option maxRecDepth 100000 in
set_option maxHeartbeats 400000 in
theorem iWeightOf_t {l h l' h' : Nat} {v u : Value} {ar : List Int} {c : List Lt} {w : World} (ha : ar.length ≤ 1048576) (hv : SlI l h w v ar) (hc : sumC c ≤ 1048576) (hu : SlC l' h' w u c) :
    Calls Try.prog 60 #[.agg #[v], u] w (RetV w (.tuple #[.int .i64 (weightAns ar c), .bool (goodClause ar c)])) := by
  unfold weightAns
  cases hg : goodClause ar c with
  | false =>
    rw [if_neg (by simp)]
    have HG := Lib.hid hg; clear hg
    go_enter Try.func60, Try.ntmps60
    go_wp2_with fail
    refine (iGoodClause_v HG.out ha (hv.alloc _) hc (hu.alloc _)).mono ?_; rintro e w1 ⟨rfl, hb1⟩
    go_wp2_with fail
    go_ret2
    exact ⟨rfl, hb1.of_alloc⟩
  | true =>
    rw [if_pos rfl]
    have hle := sumC_len c
    have hsum := (short_flat hc).1
    have hfl := flatC_len c
    have HG := Lib.hid hg; clear hg
    have HC := Lib.hid (fun (w' : World) (hb : Bel w w') => termsIn_c l' h' u c w' (by omega) (hu.below hb))
    go_enter Try.func60, Try.ntmps60
    go_wp2_with fail
    refine (iGoodClause_v HG.out ha (hv.alloc _) hc (hu.alloc _)).mono ?_; rintro e w1 ⟨rfl, hb1⟩
    have hcl : c.length ≤ 1048576 := by omega
    clear hc hu hv
    go_wp2_with fail
    refine (HC.out _ hb1.of_alloc).mono ?_; rintro e w2 ⟨a2, n2, c2, rfl, hrow, hb2⟩
    have HB := hb1.of_alloc.step hb2
    generalize flatC c = L at *
    have hs := hrow.sls hb2
    obtain ⟨ad, cap, e⟩ := hs.form
    simp only [Value.slice.injEq] at e
    obtain ⟨rfl, rfl, rfl⟩ := e
    go_wp2_with fail
    go_loopw [6, 16] (fun m i wr => ∃ k : Nat, k ≤ L.length ∧ i = .int .i64 k ∧ m = .int .i64 (sumL (L.take k) : Nat) ∧ Bel w2 wr) (fun _ i _ => L.length - (intOf i).toNat)
    case atStart => exact ⟨0, Nat.zero_le _, rfl, by simp [sumL], Bel.rfl' _⟩
    case round =>
      obtain ⟨k, hk, rfl, rfl, hb⟩ := hrel
      by_cases hlt : k < L.length
      · obtain ⟨b, off, u1, rfl, hbs, c1, s1⟩ := hs.at hb k hlt
        have hst := sumL_take L k hlt
        have hsl := sumL_get L k hlt
        have hin1 : (k : Int) < L.length := by omega
        have hin2 : (k : Int) < 2 * c.length := by omega
        clear hs hrow
        generalize L.getD k [] = x at *
        obtain ⟨a1, d1, rfl⟩ := s1.form
        have HE : Hid (((sumL (L.take k) : Nat) : Int) + (x.length : Int) = (sumL (L.take (k+1)) : Nat)) := by show _ = _; omega
        have i2 := IntWalk.i64_in (((sumL (L.take k) : Nat) : Int) + (x.length : Int)) (by omega)
        clear s1 hst hsl
        go_wp2_with fail
        go_roundw
        case rel => exact ⟨k+1, by omega, by go_num, by rw [← HE.out], hb⟩
        case measure => simp [intOf]; omega
      · have hin2 : ¬ (k : Int) < 2 * c.length := by omega
        rw [sumL_all L k hlt]
        go_wp2_with fail
        go_ret2
        exact ⟨rfl, HB.step hb⟩
end Go.Proofs.Ytikllmdmifecpaa
end
section
/- strings.Join off the shelf: the library's contract laid at this program (which functions and types stand for which). -/
namespace Go.Proofs.Ytikllmdmifecpaa
open Go.Shelf Go.RowKit

def laysJoin_ren : Go.Shelf.Ren := ⟨fun | 156 => 161 | 165 => 178 | 166 => 179 | 169 => 180 | 240 => 189 | 241 => 190 | 276 => 204 | 277 => 205 | n => n, fun | 31 => 158 | 9 => 9 | 3 => 3 | 4 => 4 | 0 => 0 | 20 => 20 | 72 => 177 | 76 => 181 | 70 => 175 | 37 => 39 | 75 => 180 | 127 => 190 | 164 => 202 | 5 => 5 | 80 => 183 | n => n, fun n => n⟩
set_option maxRecDepth 100000 in
theorem laysJoin : Lays.n156 Try.prog laysJoin_ren := {
  mixed := by kernel_rfl
  f156 := Try.func161.trans (congrArg some (by kernel_rfl))
  f165 := Try.func178.trans (congrArg some (by kernel_rfl))
  f166 := Try.func179.trans (congrArg some (by kernel_rfl))
  f169 := Try.func180.trans (congrArg some (by kernel_rfl))
  f240 := Try.func189.trans (congrArg some (by kernel_rfl))
  f241 := Try.func190.trans (congrArg some (by kernel_rfl))
  f276 := Try.func204.trans (congrArg some (by kernel_rfl))
  f277 := Try.func205.trans (congrArg some (by kernel_rfl))
  t0 := Try.underlying0
  a0 := fun w => by kernel_rfl
  z0 := fun w => by kernel_rfl
  v0 := fun w => by kernel_rfl
  t3 := Try.underlying3
  a3 := fun w => by kernel_rfl
  z3 := fun w => by kernel_rfl
  v3 := fun w => by kernel_rfl
  t4 := Try.underlying4
  a4 := fun w => by kernel_rfl
  z4 := fun w => by kernel_rfl
  v4 := fun w => by kernel_rfl
  t9 := Try.underlying9
  a9 := fun w => by kernel_rfl
  z9 := fun w => by kernel_rfl
  v9 := fun w => by kernel_rfl
  t20 := Try.underlying20
  a20 := fun w => by kernel_rfl
  z20 := fun w => by kernel_rfl
  v20 := fun w => by kernel_rfl
  t31 := Try.underlying158
  a31 := fun w => by kernel_rfl
  z31 := fun w => by kernel_rfl
  v31 := fun w => by kernel_rfl
  t37 := Try.underlying39
  a37 := fun w => by kernel_rfl
  z37 := fun w => by kernel_rfl
  v37 := fun w => by kernel_rfl
  t70 := Try.underlying175
  a70 := fun w => by kernel_rfl
  z70 := fun w => by kernel_rfl
  v70 := fun w => by kernel_rfl
  t72 := Try.underlying177
  a72 := fun w => by kernel_rfl
  z72 := fun w => by kernel_rfl
  v72 := fun w => by kernel_rfl
  t75 := Try.underlying180
  a75 := fun w => by kernel_rfl
  z75 := fun w => by kernel_rfl
  v75 := fun w => by kernel_rfl
  t76 := Try.underlying181
  a76 := fun w => by kernel_rfl
  z76 := fun w => by kernel_rfl
  v76 := fun w => by kernel_rfl
  t127 := Try.underlying190
  a127 := fun w => by kernel_rfl
  z127 := fun w => by kernel_rfl
  v127 := fun w => by kernel_rfl
  t164 := Try.underlying202
  a164 := fun w => by kernel_rfl
  z164 := fun w => by kernel_rfl
  v164 := fun w => by kernel_rfl
}
theorem extraJ : Builder.Extra Try.prog laysJoin_ren where
  sizeBuilder := by kernel_rfl
  liesBuilder := by kernel_rfl
  t5 := by kernel_rfl
  a5 := by intro w; first | kernel_rfl | rfl | (simp [go_sem]; done)
  z5 := by intro w; first | kernel_rfl | rfl | (simp [go_sem]; done)
  v5 := by intro w; first | kernel_rfl | rfl | (simp [go_sem]; done)
  infoByte := by kernel_rfl
  cellsByte := by kernel_rfl
  sizeByte := by kernel_rfl
  neB5 := by decide
end Go.Proofs.Ytikllmdmifecpaa
end
section
/- Chapter 4, the program: ClauseText. -/
namespace Go.Proofs.Ytikllmdmifecpaa
open Go.RowKit

theorem Try.info9 : (Try.prog.info? 9).map (fun i => (i.zero, i.size, i.bytes)) = some (some (.string ⟨#[]⟩), 1, 16) := by kernel_rfl
abbrev RowT (lo : Nat) (w : World) (v : Value) (ss : List ByteArray) : Prop := w.ownsRow lo 9 1 v ss.length (ss.map Value.string)
theorem step_append_str {w : World} {ops : Array Oper} {o : Oper} {a : Act} {K : Act → World → Prop} {Q : Exit → Act → World → Prop} {E : Prop} (hgd : o.guard = none) (s x : Operand) (d : Nat) (hd : o.dst = some d)
    (ho : o.op = .call { callee := .builtin .append, args := #[s, x], argTypes := #[158, 158] })
    (base : Nat) (v : Value) (ss : List ByteArray) (hs : a.eval s = v) (hown : RowT base w v ss) (g : Nat) (A : ByteArray) (hx : a.eval x = .slice (some ⟨g, 0, none⟩) 1 1)
    (hnews : ∀ j u, [Value.string A][j]? = some u → w.cell? ((⟨g, 0, none⟩ : Addr).add j) = some u)
    (hl : ss.length ≤ 1048576) (hbase : base ≤ w.heap.size)
    (h : ∀ b k w', RowT base w' (.slice (some ⟨b, 0, none⟩) (ss.length + 1) k) (ss ++ [A]) → w.grownBy w' v.ownBlock → K (a.put (some d) (.slice (some ⟨b, 0, none⟩) (ss.length + 1) k)) w') :
    if Region.wanted o (yielded ops a.tmps) = true then Oper.wp Try.prog o a w K Q else E := by
  obtain ⟨i0, hi0, hz0, hz1, hz2⟩ := info_parts Try.info9
  rw [← hd] at h
  refine step_append_lies w hgd s x 158 ho base 9 i0 (.string ⟨#[]⟩) 1 16 Try.underlying158 hi0 hz0 hz1 hz2 rfl (by decide) v ss.length (ss.map Value.string) hs hown
    ⟨g, 0, none⟩ 1 1 [.string A] hx (by simp) hnews (fun u hu => by simp at hu; subst hu; rfl) (by decide) (by unfold maxLen; omega) (by omega) hbase w.heap.size rfl (fun b k w' h1 h2 _ _ => ?_)
  refine h b k w' ?_ h2
  show World.ownsRow _ _ _ _ _ _ _
  rw [List.map_append, List.length_append]
  exact h1
theorem inter_text (ar : List Int) : ∀ (r : List Lt) (x : Lt), Lib.join ((x :: r).map (textL ar)) [124] = textC ar (x :: r) := by
  intro r
  induction r with
  | nil => intro x; simp [Lib.join, List.intercalate, textC, barsL]
  | cons y r ih =>
    intro x
    have := ih y
    simp only [Lib.join, List.map_cons, textC] at this ⊢
    rw [List.intercalate_cons_cons, this]
    simp [barsL]

set_option maxRecDepth 100000 in
set_option maxHeartbeats 1000000 in
theorem clauseText_c (l h l' h' : Nat) (v u : Value) (ar : List Int) (c : List Lt) (w : World) (hg : goodSign ar = true) (h8 : c.length ≤ 8) (hok : ∀ x ∈ c, okLit ar x = true) (hv : SlI l h w v ar) (hu : SlC l' h' w u c) :
    Calls Try.prog 113 #[.agg #[v], u] w (RetT w (textC ar c)) := by
  obtain ⟨ad, cap, rfl⟩ := hu.form
  by_cases h0 : c.length = 0
  · have hc : c = [] := List.length_eq_zero_iff.1 h0
    subst hc
    clear h0
    go_enter Try.func113, Try.ntmps113
    go_wp2_with fail
    go_ret
    exact ⟨_, rfl, rfl, Bel.alloc0 _ _⟩
  · have hne : ((c.length : Int) == 0) = false := beq_eq_false_iff_ne.2 (by omega)
    go_enter Try.func113, Try.ntmps113
    go_wp2_with fail
    go_loopw [5, 14] (fun o i wr => ∃ (k : Nat) (ss : List ByteArray), k ≤ c.length ∧ i = .int .i64 k ∧ RowT (w.heap.size + 1) wr o ss ∧ ss.map (·.data.toList) = (c.take k).map (textL ar) ∧ Bel (w.alloc (.cells #[v] 29)) wr) (fun _ i _ => c.length - (intOf i).toNat)
    case atStart => exact ⟨0, [], Nat.zero_le _, rfl, World.ownsRow_nil _ _ _ _, rfl, Bel.rfl' _⟩
    case round =>
      obtain ⟨k, ss, hk, rfl, hrow, hss, hb⟩ := hrel
      have hsl : ss.length = k := by have := congrArg List.length hss; simp at this; omega
      by_cases hlt : k < c.length
      · obtain ⟨b, off, u1, u2, rfl, hbs, c1, c2, c3, s1, s2⟩ := hu.at hb.of_alloc k hlt
        have hbox := boxc hb 0 _ rfl
        obtain ⟨o1, o2⟩ := okLit_iff.1 (hok _ (mem_getD c lt0 k hlt))
        obtain ⟨hL1, hL2⟩ := textL_le (hok _ (mem_getD c lt0 k hlt))
        have HTK : Hid ((c.take (k+1)).map (textL ar) = (c.take k).map (textL ar) ++ [textL ar (c.getD k lt0)]) := by show _ = _; rw [List.take_succ_eq_append_getElem hlt, List.map_append]; simp [List.getD, hlt]
        have hin1 : (k : Int) < c.length := by omega
        obtain ⟨p1, p2⟩ := okTerm_len o1
        obtain ⟨p3, p4⟩ := okTerm_len o2
        generalize c.getD k lt0 = x at *
        obtain ⟨p, xl, xr⟩ := x
        simp only at *
        obtain ⟨a1, d1, rfl⟩ := s1.form
        obtain ⟨a2, d2, rfl⟩ := s2.form
        have hbz := hb.size
        simp only [World.size_alloc] at hbz
        have HBK := hrow.lt
        have HROW := Lib.hid hrow
        have HSS := Lib.hid hss
        have HB0 : Bel wr (wr.alloc (.cells #[.bool p, .slice a1 xl.length d1, .slice a2 xr.length d2] 106)).drew := (Bel.alloc0 _ _).drew
        have HL : Hid (∀ w', Bel wr w' → Calls Try.prog 160 #[.agg #[v], .slice a1 xl.length d1, .int .i64 0] w' (RetT w' (textAt ar xl 0))) := fun (w' : World) (hq : Bel wr w') => textAt_c l h _ _ v _ ar xl hg o1 xl.length 0 w' (by omega) (by omega) (hv.below (hb.of_alloc.step hq)) (s1.below hq)
        have HR : Hid (∀ w', Bel wr w' → Calls Try.prog 160 #[.agg #[v], .slice a2 xr.length d2, .int .i64 0] w' (RetT w' (textAt ar xr 0))) := fun (w' : World) (hq : Bel wr w') => textAt_c l h _ _ v _ ar xr hg o2 xr.length 0 w' (by omega) (by omega) (hv.below (hb.of_alloc.step hq)) (s2.below hq)
        have HTX : Hid (textL ar (p, xl, xr) = textAt ar xl 0 ++ signB p :: textAt ar xr 0) := rfl
        have hboxA := hb.alloc (.cells #[.bool p, .slice a1 xl.length d1, .slice a2 xr.length d2] 106)
        have K : Hid (∀ w', Bel (wr.alloc (.cells #[.bool p, .slice a1 xl.length d1, .slice a2 xr.length d2] 106)) w' → w'.cell? ⟨w.heap.size, 0, none⟩ = some v ∧ w'.cell? ⟨wr.heap.size, 1, none⟩ = some (.slice a1 xl.length d1) ∧ w'.cell? ⟨wr.heap.size, 2, none⟩ = some (.slice a2 xr.length d2)) := fun w' hq => ⟨boxc (hboxA.step hq) 0 _ rfl, boxc hq 1 _ rfl, boxc hq 2 _ rfl⟩
        generalize textAt ar xl 0 = TL at *
        generalize textAt ar xr 0 = TR at *
        generalize textL ar (p, xl, xr) = TX at *
        generalize xl.length = nl at *
        generalize xr.length = nr at *
        clear o1 o2 s1 s2 hu hok hv hrow hss hboxA
        cases p with
        | true =>
          go_wp2_with fail
          have hmk : ((⟨#[61]⟩ : ByteArray)).size = 1 := rfl
          have D0 : Bel (wr.alloc (.cells #[.bool true, .slice a1 nl d1, .slice a2 nr d2] 106)) (wr.alloc (.cells #[.bool true, .slice a1 nl d1, .slice a2 nr d2] 106)).drew := Bel.drew0 _
          go_region_held_law (fun w' => w'.cell? ⟨w.heap.size, 0, none⟩ = some v ∧ w'.cell? ⟨wr.heap.size, 1, none⟩ = some (.slice a1 nl d1) ∧ w'.cell? ⟨wr.heap.size, 2, none⟩ = some (.slice a2 nr d2))
            (first | exact ⟨t1, t2, t3⟩ | exact ⟨m1, m2, m3⟩ | exact K.out _ G4 | exact K.out _ (D0.step g3) | exact K.out _ D0 | fail)
            (first
              | (refine step_append_str rfl (.tmp 20) (.tmp 32) 33 rfl rfl (w.heap.size + 1) _ ss rfl R4 w4.heap.size ((B ++ ⟨#[61]⟩) ++ C) rfl HN (by omega) HZ4 ?_; intro b5 k5 w5 R5 hg5; have t1 := hg5.cell m1 (fun e => Nat.not_succ_le_self _ (HBK _ e.symm).1); have t2 := hg5.cell m2 (fun e => Nat.lt_irrefl _ (HBK _ e.symm).2); have t3 := hg5.cell m3 (fun e => Nat.lt_irrefl _ (HBK _ e.symm).2))
              | (go_at_call 160; refine (HR.out _ HB3).mono ?_; rintro e w4 ⟨C, rfl, hC, g4⟩; have HB4 := HB3.step g4; have G4 := (D0.step g3).step g4; have hBs : B.size ≤ 120 := (by rw [ba_size, hB]; exact hL1); have hCs : C.size ≤ 120 := (by rw [ba_size, hC]; exact hL2); have hr1 := fun (W : World) => run_string_add_sum (P := Try.prog) (w := W) B ⟨#[61]⟩ (by omega); have hr2 := fun (W : World) => run_string_add_sum (P := Try.prog) (w := W) (B ++ ⟨#[61]⟩) C (by rw [ByteArray.size_append]; omega); have R4 : RowT (w.heap.size + 1) (w4.alloc (.cells #[.string ((B ++ ⟨#[61]⟩) ++ C)] 9)) _ ss := ownsRow_bel HROW.out (HB4.step (Bel.alloc0 _ _)); have HN := news_one w4 (.string ((B ++ ⟨#[61]⟩) ++ C)) 9; have HZ4 : w.heap.size + 1 ≤ (w4.alloc (.cells #[.string ((B ++ ⟨#[61]⟩) ++ C)] 9)).heap.size := Nat.le_trans hbz (HB4.step (Bel.alloc0 _ _)).size; obtain ⟨m1, m2, m3⟩ := K.out _ (G4.step (Bel.alloc0 w4 (.cells #[.string ((B ++ ⟨#[61]⟩) ++ C)] 9))))
              | (go_at_call 160; refine (HL.out _ HB3).mono ?_; rintro e w4 ⟨B, rfl, hB, g4⟩; have HB4 := HB3.step g4; have G4 := (D0.step g3).step g4; have hBs : B.size ≤ 120 := (by rw [ba_size, hB]; exact hL1); have hCs : C.size ≤ 120 := (by rw [ba_size, hC]; exact hL2); have hr1 := fun (W : World) => run_string_add_sum (P := Try.prog) (w := W) B ⟨#[61]⟩ (by omega); have hr2 := fun (W : World) => run_string_add_sum (P := Try.prog) (w := W) (B ++ ⟨#[61]⟩) C (by rw [ByteArray.size_append]; omega); have R4 : RowT (w.heap.size + 1) (w4.alloc (.cells #[.string ((B ++ ⟨#[61]⟩) ++ C)] 9)) _ ss := ownsRow_bel HROW.out (HB4.step (Bel.alloc0 _ _)); have HN := news_one w4 (.string ((B ++ ⟨#[61]⟩) ++ C)) 9; have HZ4 : w.heap.size + 1 ≤ (w4.alloc (.cells #[.string ((B ++ ⟨#[61]⟩) ++ C)] 9)).heap.size := Nat.le_trans hbz (HB4.step (Bel.alloc0 _ _)).size; obtain ⟨m1, m2, m3⟩ := K.out _ (G4.step (Bel.alloc0 w4 (.cells #[.string ((B ++ ⟨#[61]⟩) ++ C)] 9))))
              | (go_at_call 160; refine (HL.out _ HB0).mono ?_; rintro e w3 ⟨B, rfl, hB, g3⟩; have HB3 := HB0.step g3; have hr1 := fun (W : World) => run_string_add_sum (P := Try.prog) (w := W) B ⟨#[61]⟩ (by have hBs : B.size ≤ 120 := (by rw [ba_size, hB]; exact hL1); omega))
              | (go_at_call 160; refine (HR.out _ HB0).mono ?_; rintro e w3 ⟨C, rfl, hC, g3⟩; have HB3 := HB0.step g3)
              | fail)
          all_goals
            have hB6 := ((hb.step HB4).alloc (.cells #[.string ((B ++ ⟨#[61]⟩) ++ C)] 9)).grown hg5 (fun q hq => by have := (HBK q hq).1; simp; omega)
            have HBl := Lib.hid hB
            have HCl := Lib.hid hC
            clear hB hC
            go_wp2_with fail
            go_roundw
            case rel => exact ⟨k + 1, _, by omega, by go_num, by first | exact R5 | (rw [hsl] at R5; exact R5), by rw [List.map_append, HSS.out, HTK.out]; simp only [List.map_cons, List.map_nil, ba_app, HBl.out, HCl.out, HTX.out, signB]; simp, hB6⟩
            case measure => simp [intOf]; omega
        | false =>
          go_wp2_with fail
          have hmk : ((⟨#[35]⟩ : ByteArray)).size = 1 := rfl
          have D0 : Bel (wr.alloc (.cells #[.bool false, .slice a1 nl d1, .slice a2 nr d2] 106)) (wr.alloc (.cells #[.bool false, .slice a1 nl d1, .slice a2 nr d2] 106)).drew := Bel.drew0 _
          go_region_held_law (fun w' => w'.cell? ⟨w.heap.size, 0, none⟩ = some v ∧ w'.cell? ⟨wr.heap.size, 1, none⟩ = some (.slice a1 nl d1) ∧ w'.cell? ⟨wr.heap.size, 2, none⟩ = some (.slice a2 nr d2))
            (first | exact ⟨t1, t2, t3⟩ | exact ⟨m1, m2, m3⟩ | exact K.out _ G4 | exact K.out _ (D0.step g3) | exact K.out _ D0 | fail)
            (first
              | (refine step_append_str rfl (.tmp 20) (.tmp 32) 33 rfl rfl (w.heap.size + 1) _ ss rfl R4 w4.heap.size ((B ++ ⟨#[35]⟩) ++ C) rfl HN (by omega) HZ4 ?_; intro b5 k5 w5 R5 hg5; have t1 := hg5.cell m1 (fun e => Nat.not_succ_le_self _ (HBK _ e.symm).1); have t2 := hg5.cell m2 (fun e => Nat.lt_irrefl _ (HBK _ e.symm).2); have t3 := hg5.cell m3 (fun e => Nat.lt_irrefl _ (HBK _ e.symm).2))
              | (go_at_call 160; refine (HR.out _ HB3).mono ?_; rintro e w4 ⟨C, rfl, hC, g4⟩; have HB4 := HB3.step g4; have G4 := (D0.step g3).step g4; have hBs : B.size ≤ 120 := (by rw [ba_size, hB]; exact hL1); have hCs : C.size ≤ 120 := (by rw [ba_size, hC]; exact hL2); have hr1 := fun (W : World) => run_string_add_sum (P := Try.prog) (w := W) B ⟨#[35]⟩ (by omega); have hr2 := fun (W : World) => run_string_add_sum (P := Try.prog) (w := W) (B ++ ⟨#[35]⟩) C (by rw [ByteArray.size_append]; omega); have R4 : RowT (w.heap.size + 1) (w4.alloc (.cells #[.string ((B ++ ⟨#[35]⟩) ++ C)] 9)) _ ss := ownsRow_bel HROW.out (HB4.step (Bel.alloc0 _ _)); have HN := news_one w4 (.string ((B ++ ⟨#[35]⟩) ++ C)) 9; have HZ4 : w.heap.size + 1 ≤ (w4.alloc (.cells #[.string ((B ++ ⟨#[35]⟩) ++ C)] 9)).heap.size := Nat.le_trans hbz (HB4.step (Bel.alloc0 _ _)).size; obtain ⟨m1, m2, m3⟩ := K.out _ (G4.step (Bel.alloc0 w4 (.cells #[.string ((B ++ ⟨#[35]⟩) ++ C)] 9))))
              | (go_at_call 160; refine (HL.out _ HB3).mono ?_; rintro e w4 ⟨B, rfl, hB, g4⟩; have HB4 := HB3.step g4; have G4 := (D0.step g3).step g4; have hBs : B.size ≤ 120 := (by rw [ba_size, hB]; exact hL1); have hCs : C.size ≤ 120 := (by rw [ba_size, hC]; exact hL2); have hr1 := fun (W : World) => run_string_add_sum (P := Try.prog) (w := W) B ⟨#[35]⟩ (by omega); have hr2 := fun (W : World) => run_string_add_sum (P := Try.prog) (w := W) (B ++ ⟨#[35]⟩) C (by rw [ByteArray.size_append]; omega); have R4 : RowT (w.heap.size + 1) (w4.alloc (.cells #[.string ((B ++ ⟨#[35]⟩) ++ C)] 9)) _ ss := ownsRow_bel HROW.out (HB4.step (Bel.alloc0 _ _)); have HN := news_one w4 (.string ((B ++ ⟨#[35]⟩) ++ C)) 9; have HZ4 : w.heap.size + 1 ≤ (w4.alloc (.cells #[.string ((B ++ ⟨#[35]⟩) ++ C)] 9)).heap.size := Nat.le_trans hbz (HB4.step (Bel.alloc0 _ _)).size; obtain ⟨m1, m2, m3⟩ := K.out _ (G4.step (Bel.alloc0 w4 (.cells #[.string ((B ++ ⟨#[35]⟩) ++ C)] 9))))
              | (go_at_call 160; refine (HL.out _ HB0).mono ?_; rintro e w3 ⟨B, rfl, hB, g3⟩; have HB3 := HB0.step g3; have hr1 := fun (W : World) => run_string_add_sum (P := Try.prog) (w := W) B ⟨#[35]⟩ (by have hBs : B.size ≤ 120 := (by rw [ba_size, hB]; exact hL1); omega))
              | (go_at_call 160; refine (HR.out _ HB0).mono ?_; rintro e w3 ⟨C, rfl, hC, g3⟩; have HB3 := HB0.step g3)
              | fail)
          all_goals
            have hB6 := ((hb.step HB4).alloc (.cells #[.string ((B ++ ⟨#[35]⟩) ++ C)] 9)).grown hg5 (fun q hq => by have := (HBK q hq).1; simp; omega)
            have HBl := Lib.hid hB
            have HCl := Lib.hid hC
            clear hB hC
            go_wp2_with fail
            go_roundw
            case rel => exact ⟨k + 1, _, by omega, by go_num, by first | exact R5 | (rw [hsl] at R5; exact R5), by rw [List.map_append, HSS.out, HTK.out]; simp only [List.map_cons, List.map_nil, ba_app, HBl.out, HCl.out, HTX.out, signB]; simp, hB6⟩
            case measure => simp [intOf]; omega
      · have hkc : k = c.length := by omega
        have hkl : ss.length = c.length := by omega
        have hcn : c ≠ [] := by intro e; subst e; exact h0 rfl
        have HJ : Hid (Lib.join (ss.map (·.data.toList)) [124] = textC ar c) := by
          show _ = _
          rw [hss, List.take_of_length_le (by omega)]
          cases c with
          | nil => exact absurd rfl hcn
          | cons x r => exact inter_text ar r x
        have hlen : (textC ar c).length ≤ 2000 := by rw [← accL_all ar c h0]; have := accL_le hok c.length (Nat.le_refl _); omega
        have h0' := hrow
        rcases hrow.2 with ⟨e1, h2⟩ | ⟨g, cap2, cur, e1, hgb, hh, hn, hc2, hsz, ht⟩
        · omega
        · subst e1
          have hgs := (Array.getElem?_eq_some_iff.1 hh).1
          have hj := Any.strings_Join_48 laysJoin extraJ g 0 cap2 ss ⟨#[124]⟩ wr (fun j x hx => by
            have hjl : j < ss.length := (List.getElem?_eq_some_iff.1 hx).1
            rw [Nat.zero_add, h0'.cellAt j (by omega), List.getElem?_map, hx]; rfl) hgs (by omega) hn (by show (Lib.join _ [124]).length ≤ _; rw [HJ.out]; omega)
          have HJJ : Hid (Calls Try.prog 161 #[.slice (some ⟨g, 0, none⟩) ss.length cap2, .string ⟨#[124]⟩] wr fun e w' => e = .returned (.string ⟨(textC ar c).toArray⟩) ∧ Below wr.heap.size wr w') := by
            show Calls _ _ _ _ _
            have := hj
            rw [show (⟨#[124]⟩ : ByteArray).data.toList = [124] from rfl, HJ.out] at this
            exact this
          clear hj h0' hrow hss hu hv hok hh ht hsz hn hc2 hlen HJ
          have hkc2 : ¬ (k : Int) < c.length := by omega
          generalize textC ar c = T at *
          generalize ss.length = n at *
          clear hkl hsl
          go_wp2_with fail
          refine HJJ.out.mono ?_; rintro e w2 ⟨rfl, hb2⟩
          go_wp2_with fail
          go_ret
          exact ⟨_, rfl, by simp, hb.of_alloc.step hb2⟩

set_option maxRecDepth 100000 in
set_option maxHeartbeats 400000 in
theorem iClauseText_t {l h l' h' : Nat} {v u : Value} {ar : List Int} {c : List Lt} {w : World} (ha : ar.length ≤ 1048576) (hv : SlI l h w v ar) (hc : sumC c ≤ 1048576) (hu : SlC l' h' w u c) :
    Calls Try.prog 65 #[.agg #[v], u] w (RetV w (.tuple #[.string (textClA ar c), .bool (goodClause ar c)])) := by
  unfold textClA
  cases hg : goodClause ar c with
  | false =>
    rw [if_neg (by simp)]
    have HG := Lib.hid hg; clear hg
    go_enter Try.func65, Try.ntmps65
    go_wp2_with fail
    refine (iGoodClause_v HG.out ha (hv.alloc _) hc (hu.alloc _)).mono ?_; rintro e w1 ⟨rfl, hb1⟩
    go_wp2_with fail
    go_ret2
    exact ⟨rfl, hb1.of_alloc⟩
  | true =>
    rw [if_pos rfl]
    obtain ⟨g1, g2, g3⟩ := goodClause_iff.1 hg
    have HC := Lib.hid (fun (w' : World) (hb : Bel w w') => clauseText_c l h l' h' v u ar c w' g1 g2 g3 (hv.below hb) (hu.below hb))
    have HG := Lib.hid hg; clear hg g1 g2 g3
    generalize textC ar c = T at *
    go_enter Try.func65, Try.ntmps65
    go_wp2_with fail
    refine (iGoodClause_v HG.out ha (hv.alloc _) hc (hu.alloc _)).mono ?_; rintro e w1 ⟨rfl, hb1⟩
    have hbox := boxc hb1 0 _ rfl
    clear hc
    go_wp2_with fail
    refine (HC.out _ hb1.of_alloc).mono ?_; rintro e w2 ⟨A, rfl, hA, hb2⟩
    rw [← ba_mk hA]
    go_wp2_with fail
    go_ret2
    exact ⟨by rw [← ba_mk hA]; rfl, hb1.of_alloc.step hb2⟩
end Go.Proofs.Ytikllmdmifecpaa
end
section
/- Chapter 4: one literal read, and how much is read. No program. -/
namespace Go.Proofs.Ytikllmdmifecpaa
open Go.RowKit

abbrev ReadOne := Lt × Nat × Bool
def litAt (ar : List Int) (T : List UInt8) (p : Nat) : ReadOne :=
  if (rdT ar T p).2.2 = true then
    match T[(rdT ar T p).2.1]? with
    | none => (lt0, (rdT ar T p).2.1, false)
    | some b => if b = 61 ∨ b = 35 then ((decide (b = 61), (rdT ar T p).1, (rdT ar T ((rdT ar T p).2.1 + 1)).1), (rdT ar T ((rdT ar T p).2.1 + 1)).2.1, (rdT ar T ((rdT ar T p).2.1 + 1)).2.2) else (lt0, (rdT ar T p).2.1, false)
  else (lt0, (rdT ar T p).2.1, false)
section
variable {ar : List Int} {T : List UInt8} {f p : Nat} {acc : List Lt}
theorem litAt_bad (h : (rdT ar T p).2.2 = false) : litAt ar T p = (lt0, (rdT ar T p).2.1, false) := by unfold litAt; rw [if_neg (by rw [h]; simp)]
theorem litAt_end (h : (rdT ar T p).2.2 = true) (h1 : T[(rdT ar T p).2.1]? = none) : litAt ar T p = (lt0, (rdT ar T p).2.1, false) := by unfold litAt; rw [if_pos h]; simp [h1]
theorem litAt_sign {b : UInt8} (h : (rdT ar T p).2.2 = true) (h1 : T[(rdT ar T p).2.1]? = some b) (h2 : ¬ (b = 61 ∨ b = 35)) : litAt ar T p = (lt0, (rdT ar T p).2.1, false) := by
  unfold litAt; rw [if_pos h]; simp only [h1]; rw [if_neg h2]
theorem litAt_two {b : UInt8} (h : (rdT ar T p).2.2 = true) (h1 : T[(rdT ar T p).2.1]? = some b) (h2 : b = 61 ∨ b = 35) :
    litAt ar T p = ((decide (b = 61), (rdT ar T p).1, (rdT ar T ((rdT ar T p).2.1 + 1)).1), (rdT ar T ((rdT ar T p).2.1 + 1)).2.1, (rdT ar T ((rdT ar T p).2.1 + 1)).2.2) := by
  unfold litAt; rw [if_pos h]; simp only [h1]; rw [if_pos h2]
theorem lits_lit0 (h : (litAt ar T p).2.2 = false) : readLits ar T (f+1) p acc = ([], (litAt ar T p).2.1, false) := by
  cases e1 : (rdT ar T p).2.2 with
  | false => rw [lits_bad1 e1, litAt_bad e1]
  | true =>
    cases e2 : T[(rdT ar T p).2.1]? with
    | none => rw [lits_end1 e1 e2, litAt_end e1 e2]
    | some b =>
      by_cases hb : b = 61 ∨ b = 35
      · rw [litAt_two e1 e2 hb] at h ⊢
        rw [lits_bad2 e1 e2 hb h]
      · rw [lits_sign e1 e2 hb, litAt_sign e1 e2 hb]
theorem litAt_true (h : (litAt ar T p).2.2 = true) : ∃ b, (rdT ar T p).2.2 = true ∧ T[(rdT ar T p).2.1]? = some b ∧ (b = 61 ∨ b = 35) ∧ (rdT ar T ((rdT ar T p).2.1 + 1)).2.2 = true := by
  cases e1 : (rdT ar T p).2.2 with
  | false => rw [litAt_bad e1] at h; simp at h
  | true =>
    cases e2 : T[(rdT ar T p).2.1]? with
    | none => rw [litAt_end e1 e2] at h; simp at h
    | some b =>
      by_cases hb : b = 61 ∨ b = 35
      · rw [litAt_two e1 e2 hb] at h
        exact ⟨b, rfl, rfl, hb, h⟩
      · rw [litAt_sign e1 e2 hb] at h; simp at h
theorem lits_litEnd (h : (litAt ar T p).2.2 = true) (h1 : T[(litAt ar T p).2.1]? = none) : readLits ar T (f+1) p acc = (acc ++ [(litAt ar T p).1], (litAt ar T p).2.1, true) := by
  obtain ⟨b, e1, e2, hb, e3⟩ := litAt_true h
  rw [litAt_two e1 e2 hb] at h1 ⊢
  exact lits_last e1 e2 hb e3 h1
theorem lits_litBar {c : UInt8} (h : (litAt ar T p).2.2 = true) (h1 : T[(litAt ar T p).2.1]? = some c) (h2 : c ≠ 124) : readLits ar T (f+1) p acc = ([], (litAt ar T p).2.1, false) := by
  obtain ⟨b, e1, e2, hb, e3⟩ := litAt_true h
  rw [litAt_two e1 e2 hb] at h1 ⊢
  exact lits_bar e1 e2 hb e3 h1 h2
theorem lits_litMore (h : (litAt ar T p).2.2 = true) (h1 : T[(litAt ar T p).2.1]? = some 124) : readLits ar T (f+1) p acc = readLits ar T f ((litAt ar T p).2.1 + 1) (acc ++ [(litAt ar T p).1]) := by
  obtain ⟨b, e1, e2, hb, e3⟩ := litAt_true h
  rw [litAt_two e1 e2 hb] at h1 ⊢
  exact lits_more e1 e2 hb e3 h1
theorem rdT_ok (hp : p ≤ T.length) : (rdT ar T p).2.1 ≤ T.length ∧ ((rdT ar T p).2.2 = true → p < (rdT ar T p).2.1 ∧ (rdT ar T p).1.length ≤ (rdT ar T p).2.1 - p) := by
  have := scanF_ok ar T (T.length + 1) p hp
  exact ⟨this.1, this.2.1⟩
theorem litAt_ok (hp : p ≤ T.length) : (litAt ar T p).2.1 ≤ T.length ∧ ((litAt ar T p).2.2 = true → p < (litAt ar T p).2.1 ∧ wC (litAt ar T p).1 ≤ (litAt ar T p).2.1 - p) := by
  have h0 := rdT_ok (ar := ar) hp
  cases e1 : (rdT ar T p).2.2 with
  | false => rw [litAt_bad e1]; exact ⟨h0.1, fun h => by simp at h⟩
  | true =>
    cases e2 : T[(rdT ar T p).2.1]? with
    | none => rw [litAt_end e1 e2]; exact ⟨h0.1, fun h => by simp at h⟩
    | some b =>
      by_cases hb : b = 61 ∨ b = 35
      · have hlt := (List.getElem?_eq_some_iff.1 e2).1
        have h2 := rdT_ok (ar := ar) (p := (rdT ar T p).2.1 + 1) (T := T) (by omega)
        have h1 := h0.2 e1
        rw [litAt_two e1 e2 hb]
        refine ⟨h2.1, fun h3 => ?_⟩
        have := h2.2 h3
        unfold wC
        simp only
        omega
      · rw [litAt_sign e1 e2 hb]; exact ⟨h0.1, fun h => by simp at h⟩
theorem sumC_snoc (c : List Lt) (x : Lt) : sumC (c ++ [x]) = sumC c + wC x := by unfold sumC; simp
theorem lits_sum : ∀ (f p : Nat) (acc : List Lt), p ≤ T.length → (readLits ar T f p acc).2.2 = true → sumC (readLits ar T f p acc).1 + p ≤ sumC acc + T.length := by
  intro f
  induction f with
  | zero => intro p acc _ h; simp [readLits] at h
  | succ f ih =>
    intro p acc hp h
    have h0 := litAt_ok (ar := ar) hp
    cases e1 : (litAt ar T p).2.2 with
    | false => rw [lits_lit0 e1] at h; simp at h
    | true =>
      have h1 := h0.2 e1
      cases e2 : T[(litAt ar T p).2.1]? with
      | none => rw [lits_litEnd e1 e2]; simp only; rw [sumC_snoc]; omega
      | some c =>
        by_cases hc : c = 124
        · subst hc
          have hlt := (List.getElem?_eq_some_iff.1 e2).1
          rw [lits_litMore e1 e2] at h ⊢
          have := ih _ _ (by omega) h
          rw [sumC_snoc] at this
          omega
        · rw [lits_litBar e1 e2 hc] at h; simp at h
end
theorem readT_sum {ar : List Int} {T : List UInt8} (h : (readT ar T).2.2 = true) : sumC (readT ar T).1 ≤ T.length := by
  unfold readT at h ⊢
  by_cases h1 : T = [45]
  · rw [if_pos h1]; simp [sumC]
  · rw [if_neg h1] at h ⊢
    by_cases h2 : T[0]? = some 45
    · rw [if_pos h2] at h; simp at h
    · rw [if_neg h2] at h ⊢
      have := lits_sum _ _ _ (Nat.zero_le _) h
      simp [sumC] at this ⊢
      omega
theorem ba_len (s : ByteArray) : s.data.toList.length = s.size := by rw [Array.length_toList]; rfl
theorem readT_short {ar : List Int} {s : ByteArray} (hs : s.size ≤ 1000) (h : (readT ar s.data.toList).2.2 = true) : shortC (readT ar s.data.toList).1 := by
  have := readT_sum h
  rw [ba_len] at this
  exact shortC_of_sum (by omega)
theorem readClAns_len (ar : List Int) (s : ByteArray) : sumC (readClAns ar s).1 ≤ 1048576 := by
  unfold readClAns
  split
  · rename_i h
    split
    · rename_i h2
      split
      · have := readT_sum h2
        rw [ba_len] at this
        omega
      · simp [sumC]
    · simp [sumC]
  · simp [sumC]
end Go.Proofs.Ytikllmdmifecpaa
end
section
/- Chapter 4, the program: one literal read. -/
namespace Go.Proofs.Ytikllmdmifecpaa
open Go.RowKit

def RetOne (w : World) (r : ReadOne) (e : Ending) (w' : World) : Prop :=
  ∃ p a1 n1 c1 a2 n2 c2 m, e = .returned (.tuple #[.agg #[.bool p, .slice a1 n1 c1, .slice a2 n2 c2], .int .i64 r.2.1, .bool r.2.2]) ∧ Bel w w' ∧
    (r.2.2 = true → p = r.1.1 ∧ w.heap.size ≤ m ∧ m ≤ w'.heap.size ∧ OwnI w.heap.size m w' (.slice a1 n1 c1) r.1.2.1 ∧ OwnI m w'.heap.size w' (.slice a2 n2 c2) r.1.2.2)

set_option maxRecDepth 100000 in
set_option maxHeartbeats 2000000 in
theorem scanLit_c (l h : Nat) (v : Value) (ar : List Int) (s : ByteArray) (p : Nat) (w : World) (hg : goodSign ar = true) (hs : s.size ≤ 1000) (hp : p ≤ s.size) (hv : SlI l h w v ar) :
    Calls Try.prog 164 #[.agg #[v], .string s, .int .i64 p] w (RetOne w (litAt ar s.data.toList p)) := by
  have hsz := ba_len s
  have HS := Lib.hid (fun (q : Nat) (w' : World) (hq : q ≤ s.size) (hb : Bel w w') => scanTerm_c l h v ar s hg (by omega) (s.data.toList.length + 1) q w' (by omega) (by omega) (hv.below hb))
  have HS : Hid (∀ (q : Nat) (w' : World), q ≤ s.size → Bel w w' → Calls Try.prog 183 #[.agg #[v], .string s, .int .i64 q] w' (RetScan w' (rdT ar s.data.toList q))) := HS
  have HB : Bel w ((w.alloc (.cells #[v] 29)).alloc (.cells #[.bool false, .slice none 0 0, .slice none 0 0] 106)) := Bel.alloc2 _ _ _
  have h0 := rdT_ok (ar := ar) (T := s.data.toList) (p := p) (by omega)
  rw [hsz] at h0
  have HP := Lib.hid (fun (q : Nat) (b : UInt8) (r : Bool) (w' : World) (hr : decide (s.data.toList[q]? = some b) = r) (hq : q ≤ s.size) => sPrefix_v s q b r hr hq (by omega) w')
  have HC1 := Lib.hid (HS.out p _ hp HB)
  have KX : Hid (∀ w', Bel ((w.alloc (.cells #[v] 29)).alloc (.cells #[.bool false, .slice none 0 0, .slice none 0 0] 106)) w' → w'.cell? ⟨w.heap.size, 0, none⟩ = some v ∧ w'.cell? ⟨w.heap.size + 1, 0, none⟩ = some (.bool false) ∧ w'.cell? ⟨w.heap.size + 1, 1, none⟩ = some (.slice none 0 0) ∧ w'.cell? ⟨w.heap.size + 1, 2, none⟩ = some (.slice none 0 0) ∧ w.heap.size + 1 < w'.heap.size ∧ ∀ i, w'.frozen? ⟨w.heap.size + 1, i, none⟩ = false) := fun w' hq =>
    ⟨hq.at (by simp; omega) (by simp [go_sem]), hq.at (by simp) (by simp [go_sem]), hq.at (by simp) (by simp [go_sem]), hq.at (by simp) (by simp [go_sem]), by have := hq.size; simp at this; omega, fun i => (hq.frozen (p := ⟨w.heap.size + 1, i, none⟩) (by simp)).trans (by simp [go_sem])⟩
  cases e1 : (rdT ar s.data.toList p).2.2 with
  | false =>
    have E := Lib.hid (litAt_bad e1)
    clear hv HP
    generalize rdT ar s.data.toList p = r1 at *
    obtain ⟨y1, q1, k1⟩ := r1
    simp only at *
    subst e1
    go_enter Try.func164, Try.ntmps164
    go_wp2_with fail
    refine HC1.out.mono ?_; rintro e w1 ⟨a1, n1, c1, rfl, o1, hb1⟩
    obtain ⟨x0, x1, x2, x3, x4, x5⟩ := KX.out _ hb1
    go_wp2_with fail
    refine bodyPost_ret (v := .tuple #[.agg #[.bool false, .slice none 0 0, .slice none 0 0], .int .i64 q1, .bool false]) (by simp [results, Try.results164, go_sem, x1, x2, x3]) rfl ⟨_, _, _, _, _, _, _, 0, by rw [E.out], ?_, fun h => by rw [E.out] at h; simp at h⟩
    exact (((HB.step hb1).set (p := ⟨w.heap.size + 1, 0, none⟩) (by simp) _).set (p := ⟨w.heap.size + 1, 1, none⟩) (by simp) _).set (p := ⟨w.heap.size + 1, 2, none⟩) (by simp) _
  | true =>
    have hq1 := h0.1
    by_cases hb61 : s.data.toList[(rdT ar s.data.toList p).2.1]? = some 61
    · have E := litAt_two e1 hb61 (.inl rfl)
      have HP61 := Lib.hid (fun w' => HP.out (rdT ar s.data.toList p).2.1 61 true w' (decide_eq_true hb61) hq1)
      have hlt := (List.getElem?_eq_some_iff.1 hb61).1
      rw [hsz] at hlt
      have HC2 := Lib.hid (fun (w' : World) (hb : Bel ((w.alloc (.cells #[v] 29)).alloc (.cells #[.bool false, .slice none 0 0, .slice none 0 0] 106)) w') => HS.out ((rdT ar s.data.toList p).2.1 + 1) w' (by omega) (HB.step hb))
      simp only [show decide ((61 : UInt8) = 61) = true from rfl] at E
      clear hv HP HS hb61
      generalize rdT ar s.data.toList p = r1 at *
      obtain ⟨y1, q1, k1⟩ := r1
      simp only at *
      subst e1
      generalize rdT ar s.data.toList (q1 + 1) = r2 at *
      obtain ⟨y2, q2, k2⟩ := r2
      simp only at *
      have E := Lib.hid E
      have hw := IntWalk.i64_in ((q1 : Int) + 1) (by omega)
      have hqq : (q1 : Int) ≤ s.size := by omega
      go_enter Try.func164, Try.ntmps164
      go_wp2_with fail
      refine HC1.out.mono ?_; rintro e w1 ⟨a1, n1, c1, rfl, o1, hb1⟩
      obtain ⟨x0, x1, x2, x3, x4, x5⟩ := KX.out _ hb1
      go_wp2_with fail
      refine (HP61.out _).mono ?_; rintro e w3 ⟨rfl, rfl⟩
      go_wp2_with fail
      refine (HC2.out _ hb1).mono ?_; rintro e w2 ⟨a2, n2, c2, rfl, o2, hb2⟩
      obtain ⟨z0, z1, z2, z3, z4, z5⟩ := KX.out _ (hb1.step hb2)
      have hzz := hb2.size
      have hz1 := hb1.size
      simp only [World.size_alloc] at hz1
      go_wp2_with fail
      have o1' := (((o1.below hb2).set (p := ⟨w.heap.size + 1, 0, none⟩) (.inl (by simp)) (.bool true)).set (p := ⟨w.heap.size + 1, 1, none⟩) (.inl (by simp)) (.slice a1 n1 c1)).set (p := ⟨w.heap.size + 1, 2, none⟩) (.inl (by simp)) (.slice a2 n2 c2)
      have o2' := ((o2.set (p := ⟨w.heap.size + 1, 0, none⟩) (.inl (by simp; omega)) (.bool true)).set (p := ⟨w.heap.size + 1, 1, none⟩) (.inl (by simp; omega)) (.slice a1 n1 c1)).set (p := ⟨w.heap.size + 1, 2, none⟩) (.inl (by simp; omega)) (.slice a2 n2 c2)
      have HB3 := (((HB.step (hb1.step hb2)).set (p := ⟨w.heap.size + 1, 0, none⟩) (by simp) (.bool true)).set (p := ⟨w.heap.size + 1, 1, none⟩) (by simp) (.slice a1 n1 c1)).set (p := ⟨w.heap.size + 1, 2, none⟩) (by simp) (.slice a2 n2 c2)
      refine bodyPost_ret (v := .tuple #[.agg #[.bool true, .slice a1 n1 c1, .slice a2 n2 c2], .int .i64 q2, .bool k2]) (by simp [results, Try.results164, go_sem, z1, z2, z3]) rfl ⟨_, _, _, _, _, _, _, w3.heap.size, by rw [E.out], HB3, fun _ => ⟨by first | (rw [E.out]; rfl) | rw [E.out], by omega, by simp; omega, ?_, ?_⟩⟩
      · rw [E.out]; exact o1'.mono (by simp; omega) (Nat.le_refl _)
      · rw [E.out]; exact o2'.mono (Nat.le_refl _) (by simp)
    · by_cases hb35 : s.data.toList[(rdT ar s.data.toList p).2.1]? = some 35
      · have E := litAt_two e1 hb35 (.inr rfl)
        have HP61 := Lib.hid (fun w' => HP.out (rdT ar s.data.toList p).2.1 61 false w' (decide_eq_false hb61) hq1)
        have HP35 := Lib.hid (fun w' => HP.out (rdT ar s.data.toList p).2.1 35 true w' (decide_eq_true hb35) hq1)
        have hlt := (List.getElem?_eq_some_iff.1 hb35).1
        rw [hsz] at hlt
        have HC2 := Lib.hid (fun (w' : World) (hb : Bel ((w.alloc (.cells #[v] 29)).alloc (.cells #[.bool false, .slice none 0 0, .slice none 0 0] 106)) w') => HS.out ((rdT ar s.data.toList p).2.1 + 1) w' (by omega) (HB.step hb))
        simp only [show decide ((35 : UInt8) = 61) = false from rfl] at E
        clear hv HP HS hb61 hb35
        generalize rdT ar s.data.toList p = r1 at *
        obtain ⟨y1, q1, k1⟩ := r1
        simp only at *
        subst e1
        generalize rdT ar s.data.toList (q1 + 1) = r2 at *
        obtain ⟨y2, q2, k2⟩ := r2
        simp only at *
        have E := Lib.hid E
        have hw := IntWalk.i64_in ((q1 : Int) + 1) (by omega)
        have hqq : (q1 : Int) ≤ s.size := by omega
        go_enter Try.func164, Try.ntmps164
        go_wp2_with fail
        refine HC1.out.mono ?_; rintro e w1 ⟨a1, n1, c1, rfl, o1, hb1⟩
        obtain ⟨x0, x1, x2, x3, x4, x5⟩ := KX.out _ hb1
        go_wp2_with fail
        refine (HP61.out _).mono ?_; rintro e w3 ⟨rfl, rfl⟩
        go_wp2_with fail
        refine (HP35.out _).mono ?_; rintro e w4 ⟨rfl, rfl⟩
        go_wp2_with fail
        refine (HC2.out _ hb1).mono ?_; rintro e w2 ⟨a2, n2, c2, rfl, o2, hb2⟩
        obtain ⟨z0, z1, z2, z3, z4, z5⟩ := KX.out _ (hb1.step hb2)
        have hzz := hb2.size
        have hz1 := hb1.size
        simp only [World.size_alloc] at hz1
        go_wp2_with fail
        have o1' := (((o1.below hb2).set (p := ⟨w.heap.size + 1, 0, none⟩) (.inl (by simp)) (.bool false)).set (p := ⟨w.heap.size + 1, 1, none⟩) (.inl (by simp)) (.slice a1 n1 c1)).set (p := ⟨w.heap.size + 1, 2, none⟩) (.inl (by simp)) (.slice a2 n2 c2)
        have o2' := ((o2.set (p := ⟨w.heap.size + 1, 0, none⟩) (.inl (by simp; omega)) (.bool false)).set (p := ⟨w.heap.size + 1, 1, none⟩) (.inl (by simp; omega)) (.slice a1 n1 c1)).set (p := ⟨w.heap.size + 1, 2, none⟩) (.inl (by simp; omega)) (.slice a2 n2 c2)
        have HB3 := (((HB.step (hb1.step hb2)).set (p := ⟨w.heap.size + 1, 0, none⟩) (by simp) (.bool false)).set (p := ⟨w.heap.size + 1, 1, none⟩) (by simp) (.slice a1 n1 c1)).set (p := ⟨w.heap.size + 1, 2, none⟩) (by simp) (.slice a2 n2 c2)
        refine bodyPost_ret (v := .tuple #[.agg #[.bool false, .slice a1 n1 c1, .slice a2 n2 c2], .int .i64 q2, .bool k2]) (by simp [results, Try.results164, go_sem, z1, z2, z3]) rfl ⟨_, _, _, _, _, _, _, w4.heap.size, by rw [E.out], HB3, fun _ => ⟨by first | (rw [E.out]; rfl) | rw [E.out], by omega, by simp; omega, ?_, ?_⟩⟩
        · rw [E.out]; exact o1'.mono (by simp; omega) (Nat.le_refl _)
        · rw [E.out]; exact o2'.mono (Nat.le_refl _) (by simp)
      · have E : litAt ar s.data.toList p = (lt0, (rdT ar s.data.toList p).2.1, false) := by
          cases hn : s.data.toList[(rdT ar s.data.toList p).2.1]? with
          | none => exact litAt_end e1 hn
          | some b => exact litAt_sign e1 hn (by rintro (rfl | rfl); exact hb61 hn; exact hb35 hn)
        have HP61 := Lib.hid (fun w' => HP.out (rdT ar s.data.toList p).2.1 61 false w' (decide_eq_false hb61) hq1)
        have HP35 := Lib.hid (fun w' => HP.out (rdT ar s.data.toList p).2.1 35 false w' (decide_eq_false hb35) hq1)
        clear hv HP HS hb61 hb35
        generalize rdT ar s.data.toList p = r1 at *
        obtain ⟨y1, q1, k1⟩ := r1
        simp only at *
        subst e1
        have E := Lib.hid E
        have hqq : (q1 : Int) ≤ s.size := by omega
        go_enter Try.func164, Try.ntmps164
        go_wp2_with fail
        refine HC1.out.mono ?_; rintro e w1 ⟨a1, n1, c1, rfl, o1, hb1⟩
        obtain ⟨x0, x1, x2, x3, x4, x5⟩ := KX.out _ hb1
        go_wp2_with fail
        refine (HP61.out _).mono ?_; rintro e w3 ⟨rfl, rfl⟩
        go_wp2_with fail
        refine (HP35.out _).mono ?_; rintro e w4 ⟨rfl, rfl⟩
        go_wp2_with fail
        refine bodyPost_ret (v := .tuple #[.agg #[.bool false, .slice none 0 0, .slice none 0 0], .int .i64 q1, .bool false]) (by simp [results, Try.results164, go_sem, x1, x2, x3]) rfl ⟨_, _, _, _, _, _, _, 0, by rw [E.out], ?_, fun h => by rw [E.out] at h; simp at h⟩
        exact (((HB.step hb1).set (p := ⟨w.heap.size + 1, 0, none⟩) (by simp) _).set (p := ⟨w.heap.size + 1, 1, none⟩) (by simp) _).set (p := ⟨w.heap.size + 1, 2, none⟩) (by simp) _
end Go.Proofs.Ytikllmdmifecpaa
end
section
/- Chapter 4, the reference: ReadClause. -/
namespace Go.Proofs.Ytikllmdmifecpaa
open Go.RowKit

def RetRC (w : World) (r : List Lt × Nat × Bool) (e : Ending) (w' : World) : Prop := ∃ ad n k, e = .returned (.tuple #[.slice ad n k, .int .i64 r.2.1, .bool r.2.2]) ∧ OwnC w.heap.size w'.heap.size w' (.slice ad n k) r.1 ∧ Bel w w'

theorem byte_int (b : UInt8) (n : Nat) (hn : n < 256) : ((b.toNat : Int) == (n : Int)) = decide (b = UInt8.ofNat n) := by
  rw [Bool.eq_iff_iff]
  simp only [beq_iff_eq, decide_eq_true_iff]
  constructor
  · intro h
    apply UInt8.toNat_inj.1
    rw [UInt8.toNat_ofNat_of_lt' (by simpa using hn)]
    omega
  · intro h; subst h; rw [UInt8.toNat_ofNat_of_lt' (by simpa using hn)]
theorem rowC_lit {base : Nat} {w : World} {v' u1 u2 : Value} {zs : List LV} {p : Bool} (h : w.ownsRow base 106 3 v' (zs.length + 1) (cellsC zs ++ [.bool p, u1, u2])) : RowC base w v' (zs ++ [(p, u1, u2)]) := by
  unfold RowC
  simpa [cellsC] using h
theorem byte_int' (b : UInt8) (n : Nat) (z : Int) (hz : z = n) (hn : n < 256) : ((b.toNat : Int) == z) = decide (b = UInt8.ofNat n) := by subst hz; exact byte_int b n hn
set_option maxRecDepth 100000 in
set_option maxHeartbeats 8000000 in
theorem l4Read_c (l h : Nat) (v : Value) (ar : List Int) (s : ByteArray) (w : World) (hg : goodSign ar = true) (hs : s.size ≤ 1000) (hv : SlI l h w v ar) :
    Calls Try.prog 118 #[.agg #[v], .string s] w (RetRC w (readT ar s.data.toList)) := by
  obtain ⟨i0, hi0, hz0, hz1, hz2⟩ := info_parts Try.info106
  have hsz : s.data.toList.length = s.size := by rw [Array.length_toList]; rfl
  by_cases hA : s.data.toList = [45]
  · have E : Hid (readT ar s.data.toList = ([], 1, true)) := by show _ = _; unfold readT; rw [if_pos hA]
    have ht : (s.toList == [45]) = true := by rw [Lib.toList_data, hA]; rfl
    generalize readT ar s.data.toList = R at *
    clear hA hsz
    go_enter Try.func118, Try.ntmps118
    go_wp2_with fail
    go_ret3
    exact ⟨_, _, _, by rw [E.out]; rfl, by rw [E.out]; exact OwnC.nil _ _ _, Bel.alloc0 _ _⟩
  · have ht : (s.toList == [45]) = false := by rw [Lib.toList_data]; exact beq_eq_false_iff_ne.2 hA
    by_cases hB : 0 < s.size ∧ s.data.toList[0]? = some 45
    · have E : Hid (readT ar s.data.toList = ([], 1, false)) := by show _ = _; unfold readT; rw [if_neg hA, if_pos hB.2]
      have h0 := hB.1
      have hget := sa_get s 0 h0
      have h45 : ((s[0].toNat : Int) == 45) = true := by rw [byte_int' s[0] 45 45 rfl (by omega)]; exact decide_eq_true (by have := hB.2; rw [hget] at this; simpa using this)
      generalize readT ar s.data.toList = R at *
      clear hA hB hsz hget
      go_enter Try.func118, Try.ntmps118
      go_wp2_with fail
      go_ret3
      exact ⟨_, _, _, by rw [E.out]; rfl, by rw [E.out]; exact OwnC.nil _ _ _, Bel.alloc0 _ _⟩
    · have hT0 : ¬ s.data.toList[0]? = some 45 := fun h => hB ⟨by have := (List.getElem?_eq_some_iff.1 h).1; omega, h⟩
      have hR : readLits ar s.data.toList (s.size + 1) 0 [] = readT ar s.data.toList := by unfold readT; rw [if_neg hA, if_neg hT0, hsz]
      have hpos : ∀ p, p ≤ s.size → (rdT ar s.data.toList p).2.1 ≤ s.size ∧ ((rdT ar s.data.toList p).2.2 = true → p < (rdT ar s.data.toList p).2.1 ∧ (rdT ar s.data.toList p).1.length ≤ 1000) := fun p hp => by
        have := scanF_ok ar s.data.toList (s.data.toList.length + 1) p (by omega)
        unfold rdT
        exact ⟨by have := this.1; omega, fun h => ⟨(this.2.1 h).1, by have h2 := (this.2.1 h).2; have := this.1; omega⟩⟩
      have HS := Lib.hid (fun (p : Nat) (w' : World) (hp : p ≤ s.size) (hb : Bel w w') => l1ReadTerm_c l h v ar s hg (by omega) (s.data.toList.length + 1) p w' (by omega) (by omega) (hv.below hb))
      have HS : Hid (∀ (p : Nat) (w' : World), p ≤ s.size → Bel w w' → Calls Try.prog 166 #[.agg #[v], .string s, .int .i64 p] w' (RetScan w' (rdT ar s.data.toList p))) := HS
      have HR0 := Lib.hid hR
      have HPOS := Lib.hid hpos
      generalize readT ar s.data.toList = R at *
      clear hA hT0 hR hpos
      have hcase : (s.size = 0 ∧ True) ∨ (∃ h0 : 0 < s.size, ((s[0].toNat : Int) == 45) = false) := by
        by_cases h0 : 0 < s.size
        · refine .inr ⟨h0, ?_⟩
          rw [byte_int' s[0] 45 45 rfl (by omega)]
          exact decide_eq_false fun e => hB ⟨h0, by rw [sa_get s 0 h0, e]; rfl⟩
        · exact .inl ⟨by omega, trivial⟩
      clear hB
      rcases hcase with ⟨hz, -⟩ | ⟨h0, h45⟩
      · have hzz : ¬ (0 : Int) < s.size := by omega
        have HZ0 := Lib.hid hz
        clear hz
        go_enter Try.func118, Try.ntmps118
        go_wp2_with fail
        go_loopw [7, 8] (fun o a wr => ∃ (f p : Nat) (acc : List Lt), p ≤ s.size ∧ a = .int .i64 p ∧ RowCO (w.heap.size + 1) wr o acc ∧ readLits ar s.data.toList f p acc = R ∧ s.size + 1 - p ≤ f ∧ acc.length ≤ p ∧ Bel (w.alloc (.cells #[v] 29)) wr) (fun _ a _ => s.size + 1 - (intOf a).toNat)
        case atStart => exact ⟨s.size + 1, 0, [], Nat.zero_le _, rfl, RowCO.nil _ _, HR0.out, by omega, by simp, Bel.rfl' _⟩
        case round =>
          obtain ⟨f0, p, acc, hp, rfl, hrow, hR, hf, hal, hbL⟩ := hrel
          obtain ⟨f, rfl⟩ : ∃ f, f0 = f + 1 := ⟨f0 - 1, by omega⟩
          have hbox := boxc hbL 0 _ rfl
          have HHBL := Lib.hid hbL
          have HROW := Lib.hid hrow
          have hbz := hbL.size
          simp only [World.size_alloc] at hbz
          have hpos := HPOS.out
          have HS1 := Lib.hid (HS.out p _ hp hbL.of_alloc)
          have hle1 := hpos p hp
          have HB1 := fun h => lits_bad1 (ar := ar) (T := s.data.toList) (f := f) (p := p) (acc := acc) h
          have HE1 := fun h h1 => lits_end1 (ar := ar) (T := s.data.toList) (f := f) (p := p) (acc := acc) h h1
          have HSG := fun b h h1 h2 => lits_sign (b := b) (ar := ar) (T := s.data.toList) (f := f) (p := p) (acc := acc) h h1 h2
          obtain ⟨r1, hr1⟩ : ∃ r1, rdT ar s.data.toList p = r1 := ⟨_, rfl⟩
          rw [hr1] at HS1 hle1 HB1 HE1 HSG
          obtain ⟨y1, e1, k1⟩ := r1
          simp only at hle1 HB1 HE1 HSG
          clear hrow hbL
          go_wp2_with fail
          refine HS1.out.mono ?_; rintro e w1 ⟨a1, n1, c1, rfl, o1, hb1⟩
          have hboxA := boxc (HHBL.out.step hb1) 0 _ rfl
          cases k1 with
          | false =>
            have E : Hid (R = ([], e1, false)) := by show _ = _; rw [← hR]; exact HB1 rfl
            clear HB1 HE1 HSG hR
            go_wp2_with fail
            go_ret3
            exact ⟨_, _, _, by rw [E.out]; rfl, by rw [E.out]; exact OwnC.nil _ _ _, HHBL.out.of_alloc.step hb1⟩
          | true => exact absurd (hle1.2 rfl).1 (by have h1 := hle1.1; have h2 := HZ0.out; omega)
      · have hzz : (0 : Int) < s.size := by omega
        go_enter Try.func118, Try.ntmps118
        go_wp2_with fail
        go_loopw [7, 8] (fun o a wr => ∃ (f p : Nat) (acc : List Lt), p ≤ s.size ∧ a = .int .i64 p ∧ RowCO (w.heap.size + 1) wr o acc ∧ readLits ar s.data.toList f p acc = R ∧ s.size + 1 - p ≤ f ∧ acc.length ≤ p ∧ Bel (w.alloc (.cells #[v] 29)) wr) (fun _ a _ => s.size + 1 - (intOf a).toNat)
        case atStart => exact ⟨s.size + 1, 0, [], Nat.zero_le _, rfl, RowCO.nil _ _, HR0.out, by omega, by simp, Bel.rfl' _⟩
        case round =>
          obtain ⟨f0, p, acc, hp, rfl, hrow, hR, hf, hal, hbL⟩ := hrel
          obtain ⟨f, rfl⟩ : ∃ f, f0 = f + 1 := ⟨f0 - 1, by omega⟩
          have hbox := boxc hbL 0 _ rfl
          have HHBL := Lib.hid hbL
          have HROW := Lib.hid hrow
          have hbz := hbL.size
          simp only [World.size_alloc] at hbz
          have hpos := HPOS.out
          have HS1 := Lib.hid (HS.out p _ hp hbL.of_alloc)
          have hle1 := hpos p hp
          have HB1 := fun h => lits_bad1 (ar := ar) (T := s.data.toList) (f := f) (p := p) (acc := acc) h
          have HE1 := fun h h1 => lits_end1 (ar := ar) (T := s.data.toList) (f := f) (p := p) (acc := acc) h h1
          have HSG := fun b h h1 h2 => lits_sign (b := b) (ar := ar) (T := s.data.toList) (f := f) (p := p) (acc := acc) h h1 h2
          obtain ⟨r1, hr1⟩ : ∃ r1, rdT ar s.data.toList p = r1 := ⟨_, rfl⟩
          rw [hr1] at HS1 hle1 HB1 HE1 HSG
          obtain ⟨y1, e1, k1⟩ := r1
          simp only at hle1 HB1 HE1 HSG
          clear hrow hbL
          go_wp2_with fail
          refine HS1.out.mono ?_; rintro e w1 ⟨a1, n1, c1, rfl, o1, hb1⟩
          have hboxA := boxc (HHBL.out.step hb1) 0 _ rfl
          cases k1 with
          | false =>
            have E : Hid (R = ([], e1, false)) := by show _ = _; rw [← hR]; exact HB1 rfl
            clear HB1 HE1 HSG hR
            go_wp2_with fail
            go_ret3
            exact ⟨_, _, _, by rw [E.out]; rfl, by rw [E.out]; exact OwnC.nil _ _ _, HHBL.out.of_alloc.step hb1⟩
          | true =>
            by_cases hend : e1 = s.size
            · have hnone : s.data.toList[e1]? = none := List.getElem?_eq_none (by rw [hsz]; omega)
              have E : Hid (R = ([], e1, false)) := by show _ = _; rw [← hR]; exact HE1 rfl hnone
              have he1 : ((e1 : Int) == s.size) = true := by rw [hend]; exact beq_self_eq_true _
              clear HB1 HE1 HSG hR hend hnone
              go_wp2_with fail
              go_ret3
              exact ⟨_, _, _, by rw [E.out]; rfl, by rw [E.out]; exact OwnC.nil _ _ _, HHBL.out.of_alloc.step hb1⟩
            · have he1lt : e1 < s.size := by have := hle1.1; omega
              have hg1 := sa_get s e1 he1lt
              have he1 : ((e1 : Int) == s.size) = false := beq_eq_false_iff_ne.2 (by omega)
              have hend0 := hend
              clear hend
              have hi1 : (e1 : Int) < s.size := by omega
              have hbb1 : ((s[e1].toNat : Nat) : Int) < 256 := by have := s[e1].toNat_lt; omega
              by_cases hb : s[e1] = 61
              · skip
                have hs61 : ((s[e1].toNat : Int) == 61) = true := by rw [byte_int' s[e1] 61 61 rfl (by omega)]; exact decide_eq_true hb
                have hn61 : ((s[e1].toNat : Int) != 61) = false := by rw [bne, hs61]; rfl
                have hs35 : ((s[e1].toNat : Int) == 35) = false := by rw [byte_int' s[e1] 35 35 rfl (by omega)]; rw [hb]; rfl
                have hn35 : ((s[e1].toNat : Int) != 35) = true := by rw [bne, hs35]; rfl
                have hor : s[e1] = 61 ∨ s[e1] = 35 := .inl hb
                have hdec : decide (s[e1] = 61) = true := by rw [hb]; rfl
                have hw61 := IntWalk.i64_in ((e1 : Int) + 1) (by omega)
                have HS2 := Lib.hid (HS.out (e1 + 1) w1 (by omega) (HHBL.out.step hb1).of_alloc)
                have hle2 := hpos (e1 + 1) (by omega)
                have QB2 := lits_bad2 (ar := ar) (T := s.data.toList) (f := f) (p := p) (acc := acc) (b := s[e1])
                have QLA := lits_last (ar := ar) (T := s.data.toList) (f := f) (p := p) (acc := acc) (b := s[e1])
                have QBA := fun c => lits_bar (ar := ar) (T := s.data.toList) (f := f) (p := p) (acc := acc) (b := s[e1]) (c := c)
                have QMO := lits_more (ar := ar) (T := s.data.toList) (f := f) (p := p) (acc := acc) (b := s[e1])
                rw [hr1] at QB2 QLA QMO
                simp only [hr1] at QBA
                have HB2 := QB2 rfl hg1 hor
                have HLA := QLA rfl hg1 hor
                have HBA := fun c => QBA c trivial hg1 hor
                have HMO := QMO rfl hg1 hor
                clear QB2 QLA QBA QMO
                simp only [hdec] at HLA HMO
                generalize rdT ar s.data.toList (e1 + 1) = r2 at *
                obtain ⟨y2, e2, k2⟩ := r2
                simp only at HB2 HLA HBA HMO hle2
                have HHB := Lib.hid hb
                have HHO := Lib.hid hor
                clear hb hor hdec
                go_wp2_with fail
                refine HS2.out.mono ?_; rintro e w2 ⟨a2, n2, c2, rfl, o2, hb2⟩
                have hbox2 := boxc ((HHBL.out.step hb1).step hb2) 0 _ rfl
                cases k2 with
                | false =>
                  have E : Hid (R = ([], e2, false)) := by show _ = _; rw [← hR]; exact HB2 (by trivial)
                  clear HB2 HLA HBA HMO
                  go_wp2_with fail
                  go_ret3
                  exact ⟨_, _, _, by rw [E.out]; rfl, by rw [E.out]; exact OwnC.nil _ _ _, (HHBL.out.of_alloc.step hb1).step hb2⟩
                | true =>
                  have hrs := (hle2.2 rfl).2
                  have hrs1 := (hle2.2 rfl).1
                  have hrs2 := (hle1.2 (by trivial)).1
                  obtain ⟨zs, hown, hzl, hnext⟩ := HROW.out.step (hb1.step hb2) (Bel.alloc0 w2 (.cells #[.bool true, .slice a1 n1 c1, .slice a2 n2 c2] 106)) (o1.below hb2) o2 (Nat.le_refl _) hb1.size hb2.size (Nat.le_refl _) (.inl (Nat.le_refl _)) hbz true
                  have HNX := Lib.hid hnext
                  have HZ2 : w.heap.size + 1 ≤ (w2.alloc (.cells #[.bool true, .slice a1 n1 c1, .slice a2 n2 c2] 106)).heap.size := by have h1 := hb1.size; have h2 := hb2.size; simp; omega
                  have hzp : zs.length ≤ 1000 := by omega
                  clear hnext
                  by_cases hlast : e2 = s.size
                  · have hnone : s.data.toList[e2]? = none := List.getElem?_eq_none (by rw [hsz]; omega)
                    have E : Hid (R = (acc ++ [(true, y1, y2)], e2, true)) := by show _ = _; rw [← hR]; exact HLA (by trivial) hnone
                    have he2 : ((e2 : Int) == s.size) = true := by rw [hlast]; exact beq_self_eq_true _
                    have HL2 := Lib.hid hlast
                    clear HB2 HLA HBA HMO hlast hnone
                    go_wp2_with (at_builtin; refine wpList_append_own_at _ rfl _ _ 54 rfl (w.heap.size + 1) 106 i0 (.agg #[.bool false, .slice none 0 0, .slice none 0 0]) 3 56 Try.underlying54 hi0 hz0 hz1 hz2 rfl (by decide) _ _ _ rfl hown _ _ _ [.bool true, .slice a1 n1 c1, .slice a2 n2 c2] rfl rfl (news_lit _ _ _ _ _ _ rfl) (one_lit _ _ _ _ _ _ _) (by unfold maxLen; omega) (by omega) HZ2 ?_; intro v' w4 hown' hgrow _ hat)
                    have hR5 := HNX.out w4 v' (rowC_lit hown') hgrow hat
                    obtain ⟨av, cv, rfl⟩ := hR5.form
                    have hB4 := (((HHBL.out.of_alloc.step hb1).step hb2).alloc (.cells #[.bool true, .slice a1 n1 c1, .slice a2 n2 c2] 106)).grown hgrow (fun q hq => Nat.le_of_succ_le (own_base hown q hq))
                    go_wp2_with fail
                    go_ret3
                    exact ⟨_, _, _, by rw [E.out]; rfl, by rw [E.out]; exact hR5.own.mono (by omega) (Nat.le_refl _), hB4⟩
                  · have he2lt : e2 < s.size := by have := hle2.1; omega
                    have hg2 := sa_get s e2 he2lt
                    have he2 : ((e2 : Int) == s.size) = false := beq_eq_false_iff_ne.2 (by omega)
                    have hi2 : (e2 : Int) < s.size := by omega
                    have hbb2 : ((s[e2].toNat : Nat) : Int) < 256 := by have := s[e2].toNat_lt; omega
                    by_cases hbar : s[e2] = 124
                    · have E : Hid (readLits ar s.data.toList f (e2 + 1) (acc ++ [(true, y1, y2)]) = R) := by show _ = _; rw [← hR]; exact (HMO (by trivial) (by rw [hg2, hbar])).symm
                      have h124 : ((s[e2].toNat : Int) == 124) = true := by rw [byte_int' s[e2] 124 124 rfl (by omega)]; exact decide_eq_true hbar
                      have n124 : ((s[e2].toNat : Int) != 124) = false := by rw [bne, h124]; rfl
                      have hw2 := IntWalk.i64_in ((e2 : Int) + 1) (by omega)
                      clear HB2 HLA HBA HMO hlast hbar hg2
                      go_wp2_with (at_builtin; refine wpList_append_own_at _ rfl _ _ 54 rfl (w.heap.size + 1) 106 i0 (.agg #[.bool false, .slice none 0 0, .slice none 0 0]) 3 56 Try.underlying54 hi0 hz0 hz1 hz2 rfl (by decide) _ _ _ rfl hown _ _ _ [.bool true, .slice a1 n1 c1, .slice a2 n2 c2] rfl rfl (news_lit _ _ _ _ _ _ rfl) (one_lit _ _ _ _ _ _ _) (by unfold maxLen; omega) (by omega) HZ2 ?_; intro v' w4 hown' hgrow _ hat)
                      have hR5 := HNX.out w4 v' (rowC_lit hown') hgrow hat
                      have hB4 := (((HHBL.out.step hb1).step hb2).alloc (.cells #[.bool true, .slice a1 n1 c1, .slice a2 n2 c2] 106)).grown hgrow (fun q hq => by have := own_base hown q hq; simp; omega)
                      go_roundw
                      case rel => exact ⟨f, e2 + 1, _, by omega, by go_num, hR5, E.out, by omega, by simp; omega, hB4⟩
                      case measure => simp [intOf]; omega
                    · have E : Hid (R = ([], e2, false)) := by show _ = _; rw [← hR]; exact HBA _ (by trivial) hg2 hbar
                      have h124 : ((s[e2].toNat : Int) == 124) = false := by rw [byte_int' s[e2] 124 124 rfl (by omega)]; exact decide_eq_false hbar
                      have n124 : ((s[e2].toNat : Int) != 124) = true := by rw [bne, h124]; rfl
                      clear HB2 HLA HBA HMO hlast hbar hg2
                      go_wp2_with (at_builtin; refine wpList_append_own_at _ rfl _ _ 54 rfl (w.heap.size + 1) 106 i0 (.agg #[.bool false, .slice none 0 0, .slice none 0 0]) 3 56 Try.underlying54 hi0 hz0 hz1 hz2 rfl (by decide) _ _ _ rfl hown _ _ _ [.bool true, .slice a1 n1 c1, .slice a2 n2 c2] rfl rfl (news_lit _ _ _ _ _ _ rfl) (one_lit _ _ _ _ _ _ _) (by unfold maxLen; omega) (by omega) HZ2 ?_; intro v' w4 hown' hgrow _ hat)
                      have hB4 := (((HHBL.out.of_alloc.step hb1).step hb2).alloc (.cells #[.bool true, .slice a1 n1 c1, .slice a2 n2 c2] 106)).grown hgrow (fun q hq => Nat.le_of_succ_le (own_base hown q hq))
                      go_wp2_with fail
                      go_ret3
                      exact ⟨_, _, _, by rw [E.out]; rfl, by rw [E.out]; exact OwnC.nil _ _ _, hB4⟩
              · have hb61 := hb
                clear hb
                by_cases hb : s[e1] = 35
                · skip
                  have hs61 : ((s[e1].toNat : Int) == 61) = false := by rw [byte_int' s[e1] 61 61 rfl (by omega)]; rw [hb]; rfl
                  have hn61 : ((s[e1].toNat : Int) != 61) = true := by rw [bne, hs61]; rfl
                  have hs35 : ((s[e1].toNat : Int) == 35) = true := by rw [byte_int' s[e1] 35 35 rfl (by omega)]; exact decide_eq_true hb
                  have hn35 : ((s[e1].toNat : Int) != 35) = false := by rw [bne, hs35]; rfl
                  have hor : s[e1] = 61 ∨ s[e1] = 35 := .inr hb
                  have hdec : decide (s[e1] = 61) = false := by rw [hb]; rfl
                  have hw61 := IntWalk.i64_in ((e1 : Int) + 1) (by omega)
                  have HS2 := Lib.hid (HS.out (e1 + 1) w1 (by omega) (HHBL.out.step hb1).of_alloc)
                  have hle2 := hpos (e1 + 1) (by omega)
                  have QB2 := lits_bad2 (ar := ar) (T := s.data.toList) (f := f) (p := p) (acc := acc) (b := s[e1])
                  have QLA := lits_last (ar := ar) (T := s.data.toList) (f := f) (p := p) (acc := acc) (b := s[e1])
                  have QBA := fun c => lits_bar (ar := ar) (T := s.data.toList) (f := f) (p := p) (acc := acc) (b := s[e1]) (c := c)
                  have QMO := lits_more (ar := ar) (T := s.data.toList) (f := f) (p := p) (acc := acc) (b := s[e1])
                  rw [hr1] at QB2 QLA QMO
                  simp only [hr1] at QBA
                  have HB2 := QB2 rfl hg1 hor
                  have HLA := QLA rfl hg1 hor
                  have HBA := fun c => QBA c trivial hg1 hor
                  have HMO := QMO rfl hg1 hor
                  clear QB2 QLA QBA QMO
                  simp only [hdec] at HLA HMO
                  generalize rdT ar s.data.toList (e1 + 1) = r2 at *
                  obtain ⟨y2, e2, k2⟩ := r2
                  simp only at HB2 HLA HBA HMO hle2
                  have HHB := Lib.hid hb
                  have HHO := Lib.hid hor
                  clear hb hor hdec
                  go_wp2_with fail
                  refine HS2.out.mono ?_; rintro e w2 ⟨a2, n2, c2, rfl, o2, hb2⟩
                  have hbox2 := boxc ((HHBL.out.step hb1).step hb2) 0 _ rfl
                  cases k2 with
                  | false =>
                    have E : Hid (R = ([], e2, false)) := by show _ = _; rw [← hR]; exact HB2 (by trivial)
                    clear HB2 HLA HBA HMO
                    go_wp2_with fail
                    go_ret3
                    exact ⟨_, _, _, by rw [E.out]; rfl, by rw [E.out]; exact OwnC.nil _ _ _, (HHBL.out.of_alloc.step hb1).step hb2⟩
                  | true =>
                    have hrs := (hle2.2 rfl).2
                    have hrs1 := (hle2.2 rfl).1
                    have hrs2 := (hle1.2 (by trivial)).1
                    obtain ⟨zs, hown, hzl, hnext⟩ := HROW.out.step (hb1.step hb2) (Bel.alloc0 w2 (.cells #[.bool false, .slice a1 n1 c1, .slice a2 n2 c2] 106)) (o1.below hb2) o2 (Nat.le_refl _) hb1.size hb2.size (Nat.le_refl _) (.inl (Nat.le_refl _)) hbz false
                    have HNX := Lib.hid hnext
                    have HZ2 : w.heap.size + 1 ≤ (w2.alloc (.cells #[.bool false, .slice a1 n1 c1, .slice a2 n2 c2] 106)).heap.size := by have h1 := hb1.size; have h2 := hb2.size; simp; omega
                    have hzp : zs.length ≤ 1000 := by omega
                    clear hnext
                    by_cases hlast : e2 = s.size
                    · have hnone : s.data.toList[e2]? = none := List.getElem?_eq_none (by rw [hsz]; omega)
                      have E : Hid (R = (acc ++ [(false, y1, y2)], e2, true)) := by show _ = _; rw [← hR]; exact HLA (by trivial) hnone
                      have he2 : ((e2 : Int) == s.size) = true := by rw [hlast]; exact beq_self_eq_true _
                      have HL2 := Lib.hid hlast
                      clear HB2 HLA HBA HMO hlast hnone
                      go_wp2_with (at_builtin; refine wpList_append_own_at _ rfl _ _ 54 rfl (w.heap.size + 1) 106 i0 (.agg #[.bool false, .slice none 0 0, .slice none 0 0]) 3 56 Try.underlying54 hi0 hz0 hz1 hz2 rfl (by decide) _ _ _ rfl hown _ _ _ [.bool false, .slice a1 n1 c1, .slice a2 n2 c2] rfl rfl (news_lit _ _ _ _ _ _ rfl) (one_lit _ _ _ _ _ _ _) (by unfold maxLen; omega) (by omega) HZ2 ?_; intro v' w4 hown' hgrow _ hat)
                      have hR5 := HNX.out w4 v' (rowC_lit hown') hgrow hat
                      obtain ⟨av, cv, rfl⟩ := hR5.form
                      have hB4 := (((HHBL.out.of_alloc.step hb1).step hb2).alloc (.cells #[.bool false, .slice a1 n1 c1, .slice a2 n2 c2] 106)).grown hgrow (fun q hq => Nat.le_of_succ_le (own_base hown q hq))
                      go_wp2_with fail
                      go_ret3
                      exact ⟨_, _, _, by rw [E.out]; rfl, by rw [E.out]; exact hR5.own.mono (by omega) (Nat.le_refl _), hB4⟩
                    · have he2lt : e2 < s.size := by have := hle2.1; omega
                      have hg2 := sa_get s e2 he2lt
                      have he2 : ((e2 : Int) == s.size) = false := beq_eq_false_iff_ne.2 (by omega)
                      have hi2 : (e2 : Int) < s.size := by omega
                      have hbb2 : ((s[e2].toNat : Nat) : Int) < 256 := by have := s[e2].toNat_lt; omega
                      by_cases hbar : s[e2] = 124
                      · have E : Hid (readLits ar s.data.toList f (e2 + 1) (acc ++ [(false, y1, y2)]) = R) := by show _ = _; rw [← hR]; exact (HMO (by trivial) (by rw [hg2, hbar])).symm
                        have h124 : ((s[e2].toNat : Int) == 124) = true := by rw [byte_int' s[e2] 124 124 rfl (by omega)]; exact decide_eq_true hbar
                        have n124 : ((s[e2].toNat : Int) != 124) = false := by rw [bne, h124]; rfl
                        have hw2 := IntWalk.i64_in ((e2 : Int) + 1) (by omega)
                        clear HB2 HLA HBA HMO hlast hbar hg2
                        go_wp2_with (at_builtin; refine wpList_append_own_at _ rfl _ _ 54 rfl (w.heap.size + 1) 106 i0 (.agg #[.bool false, .slice none 0 0, .slice none 0 0]) 3 56 Try.underlying54 hi0 hz0 hz1 hz2 rfl (by decide) _ _ _ rfl hown _ _ _ [.bool false, .slice a1 n1 c1, .slice a2 n2 c2] rfl rfl (news_lit _ _ _ _ _ _ rfl) (one_lit _ _ _ _ _ _ _) (by unfold maxLen; omega) (by omega) HZ2 ?_; intro v' w4 hown' hgrow _ hat)
                        have hR5 := HNX.out w4 v' (rowC_lit hown') hgrow hat
                        have hB4 := (((HHBL.out.step hb1).step hb2).alloc (.cells #[.bool false, .slice a1 n1 c1, .slice a2 n2 c2] 106)).grown hgrow (fun q hq => by have := own_base hown q hq; simp; omega)
                        go_roundw
                        case rel => exact ⟨f, e2 + 1, _, by omega, by go_num, hR5, E.out, by omega, by simp; omega, hB4⟩
                        case measure => simp [intOf]; omega
                      · have E : Hid (R = ([], e2, false)) := by show _ = _; rw [← hR]; exact HBA _ (by trivial) hg2 hbar
                        have h124 : ((s[e2].toNat : Int) == 124) = false := by rw [byte_int' s[e2] 124 124 rfl (by omega)]; exact decide_eq_false hbar
                        have n124 : ((s[e2].toNat : Int) != 124) = true := by rw [bne, h124]; rfl
                        clear HB2 HLA HBA HMO hlast hbar hg2
                        go_wp2_with (at_builtin; refine wpList_append_own_at _ rfl _ _ 54 rfl (w.heap.size + 1) 106 i0 (.agg #[.bool false, .slice none 0 0, .slice none 0 0]) 3 56 Try.underlying54 hi0 hz0 hz1 hz2 rfl (by decide) _ _ _ rfl hown _ _ _ [.bool false, .slice a1 n1 c1, .slice a2 n2 c2] rfl rfl (news_lit _ _ _ _ _ _ rfl) (one_lit _ _ _ _ _ _ _) (by unfold maxLen; omega) (by omega) HZ2 ?_; intro v' w4 hown' hgrow _ hat)
                        have hB4 := (((HHBL.out.of_alloc.step hb1).step hb2).alloc (.cells #[.bool false, .slice a1 n1 c1, .slice a2 n2 c2] 106)).grown hgrow (fun q hq => Nat.le_of_succ_le (own_base hown q hq))
                        go_wp2_with fail
                        go_ret3
                        exact ⟨_, _, _, by rw [E.out]; rfl, by rw [E.out]; exact OwnC.nil _ _ _, hB4⟩
                · skip
                  have E : Hid (R = ([], e1, false)) := by show _ = _; rw [← hR]; exact HSG _ rfl hg1 (by rintro (h | h); exact hb61 h; exact hb h)
                  have hs61 : ((s[e1].toNat : Int) == 61) = false := by rw [byte_int' s[e1] 61 61 rfl (by omega)]; exact decide_eq_false hb61
                  have hn61 : ((s[e1].toNat : Int) != 61) = true := by rw [bne, hs61]; rfl
                  have hs35 : ((s[e1].toNat : Int) == 35) = false := by rw [byte_int' s[e1] 35 35 rfl (by omega)]; exact decide_eq_false hb
                  have hn35 : ((s[e1].toNat : Int) != 35) = true := by rw [bne, hs35]; rfl
                  clear HB1 HE1 HSG hR hb hb61 hg1
                  go_wp2_with fail
                  go_ret3
                  exact ⟨_, _, _, by rw [E.out]; rfl, by rw [E.out]; exact OwnC.nil _ _ _, HHBL.out.of_alloc.step hb1⟩
end Go.Proofs.Ytikllmdmifecpaa
end
section
/- Chapter 4, the reference: ReadClause. -/
namespace Go.Proofs.Ytikllmdmifecpaa
open Go.RowKit

theorem l4Clause_v (l h l' h' : Nat) (v u : Value) (ar : List Int) (c : List Lt) (q : Bool) (w : World) (hq : okLits ar c = q) (hg : goodSign ar = true) (hx : shortC c) (hv : SlI l h w v ar) (hu : SlC l' h' w u c) :
    Calls Try.prog 88 #[.agg #[v], u] w (RetV w (.bool q)) := by subst hq; exact l4Clause_c l h l' h' v u ar c w hg hx hv hu

set_option maxRecDepth 100000 in
set_option maxHeartbeats 1000000 in
theorem sReadClause_h {l h : Nat} {v : Value} {ar : List Int} {s : ByteArray} {w : World} (ha : ar.length ≤ 1048576) (hv : SlI l h w v ar) (hs : s.size ≤ 1048576) (hsh : s.size ≤ 1000 → (readT ar s.data.toList).2.2 = true → shortC (readT ar s.data.toList).1) :
    Calls Try.prog 69 #[.agg #[v], .string s] w (RetRC w (readClAns ar s)) := by
  unfold readClAns
  cases hg : goodSign ar with
  | false =>
    rw [if_neg (by simp)]
    have HG := Lib.hid (fun (w' : World) (hb : Bel w w') => sGoodSign_v l h v ar false w' hg ha (hv.below hb)); clear hg
    go_enter Try.func69, Try.ntmps69
    go_wp2_with fail
    refine (HG.out _ (Bel.alloc0 _ _)).mono ?_; rintro e w1 ⟨rfl, hb1⟩
    go_wp2_with fail
    go_ret3
    exact ⟨_, _, _, rfl, OwnC.nil _ _ _, hb1.of_alloc⟩
  | true =>
    have HG := Lib.hid (fun (w' : World) (hb : Bel w w') => sGoodSign_v l h v ar true w' hg ha (hv.below hb))
    by_cases hsz : s.size ≤ 1000
    · rw [if_pos ⟨rfl, hsz⟩]
      have hI : ¬ ((1000 : Int) < s.size) := by omega
      have HR := Lib.hid (fun (w' : World) (hb : Bel w w') => l4Read_c l h v ar s w' hg hsz (hv.below hb))
      have HC := fun (q : Bool) (w' : World) (u : Value) (l' h' : Nat) (hq : okLits ar (readT ar s.data.toList).1 = q) (hb : Bel w w') (hk : (readT ar s.data.toList).2.2 = true) (hu : SlC l' h' w' u (readT ar s.data.toList).1) => l4Clause_v l h l' h' v u ar _ q w' hq hg (hsh hsz hk) (hv.below hb) hu
      clear hg hsh
      generalize readT ar s.data.toList = R at *
      obtain ⟨c, at', k⟩ := R
      simp only at *
      cases k with
      | false =>
        rw [if_neg (by simp)]
        clear HC
        go_enter Try.func69, Try.ntmps69
        go_wp2_with fail
        refine (HG.out _ (Bel.alloc0 _ _)).mono ?_; rintro e w1 ⟨rfl, hb1⟩
        have hbx := boxc hb1 0 _ rfl
        go_wp2_with fail
        refine (HR.out _ hb1.of_alloc).mono ?_; rintro e w2 ⟨a2, n2, c2, rfl, o2, hb2⟩
        go_wp2_with fail
        go_ret3
        exact ⟨_, _, _, rfl, OwnC.nil _ _ _, hb1.of_alloc.step hb2⟩
      | true =>
        rw [if_pos rfl]
        cases hq : okLits ar c with
        | false =>
          rw [if_neg (by simp)]
          have HCC := Lib.hid (fun w' u l' h' => HC false w' u l' h' hq)
          clear HC hq
          go_enter Try.func69, Try.ntmps69
          go_wp2_with fail
          refine (HG.out _ (Bel.alloc0 _ _)).mono ?_; rintro e w1 ⟨rfl, hb1⟩
          have hbx := boxc hb1 0 _ rfl
          go_wp2_with fail
          refine (HR.out _ hb1.of_alloc).mono ?_; rintro e w2 ⟨a2, n2, c2, rfl, o2, hb2⟩
          have hbx2 := boxc (hb1.step hb2) 0 _ rfl
          go_wp2_with fail
          refine (HCC.out _ _ _ _ (hb1.of_alloc.step hb2) trivial o2.sl).mono ?_; rintro e w3 ⟨rfl, hb3⟩
          go_wp2_with fail
          go_ret3
          exact ⟨_, _, _, rfl, OwnC.nil _ _ _, (hb1.of_alloc.step hb2).step hb3⟩
        | true =>
          rw [if_pos rfl]
          have HCC := Lib.hid (fun w' u l' h' => HC true w' u l' h' hq)
          clear HC hq
          go_enter Try.func69, Try.ntmps69
          go_wp2_with fail
          refine (HG.out _ (Bel.alloc0 _ _)).mono ?_; rintro e w1 ⟨rfl, hb1⟩
          have hbx := boxc hb1 0 _ rfl
          go_wp2_with fail
          refine (HR.out _ hb1.of_alloc).mono ?_; rintro e w2 ⟨a2, n2, c2, rfl, o2, hb2⟩
          have hbx2 := boxc (hb1.step hb2) 0 _ rfl
          go_wp2_with fail
          refine (HCC.out _ _ _ _ (hb1.of_alloc.step hb2) trivial o2.sl).mono ?_; rintro e w3 ⟨rfl, hb3⟩
          go_wp2_with fail
          go_ret3
          exact ⟨_, _, _, rfl, (o2.below hb3).mono (by have := hb1.of_alloc.size; omega) hb3.size, (hb1.of_alloc.step hb2).step hb3⟩
    · rw [if_neg (fun h => hsz h.2)]
      have hI : (1000 : Int) < s.size := by omega
      clear hg hsh
      go_enter Try.func69, Try.ntmps69
      go_wp2_with fail
      refine (HG.out _ (Bel.alloc0 _ _)).mono ?_; rintro e w1 ⟨rfl, hb1⟩
      go_wp2_with fail
      go_ret3
      exact ⟨_, _, _, rfl, OwnC.nil _ _ _, hb1.of_alloc⟩
end Go.Proofs.Ytikllmdmifecpaa
end
section
/- Chapter 4, the program: ReadClause. -/
namespace Go.Proofs.Ytikllmdmifecpaa
open Go.RowKit

theorem ba_ex0 (s : ByteArray) : s.extract 0 s.size = s := by
  apply ByteArray.ext
  simp only [ByteArray.data_extract]
  apply Array.ext
  · simp
  · intro i h1 h2; simp

set_option maxRecDepth 100000 in
set_option maxHeartbeats 2000000 in
theorem scanClause_c (l h : Nat) (v : Value) (ar : List Int) (s : ByteArray) (w : World) (hg : goodSign ar = true) (hs : s.size ≤ 1000) (hv : SlI l h w v ar) :
    Calls Try.prog 115 #[.agg #[v], .string s] w (RetRC w (readT ar s.data.toList)) := by
  obtain ⟨i0, hi0, hz0, hz1, hz2⟩ := info_parts Try.info106
  have hsz := ba_len s
  have HP := Lib.hid (fun (q : Nat) (b : UInt8) (r : Bool) (w' : World) (hr : decide (s.data.toList[q]? = some b) = r) (hq : q ≤ s.size) => sPrefix_v s q b r hr hq (by omega) w')
  have HP0 : Hid (∀ (r : Bool) (w' : World), decide (s.data.toList[0]? = some 45) = r → Calls Try.prog 163 #[.string s, .string ⟨#[45]⟩] w' fun e w'' => e = .returned (.bool r) ∧ w'' = w') := fun r w' hr => by have := HP.out 0 45 r w' hr (Nat.zero_le _); rw [ba_ex0] at this; exact this
  by_cases hB : s.data.toList[0]? = some 45
  · have HP1 := Lib.hid (fun w' => HP0.out true w' (decide_eq_true hB))
    cases hA : (s.data.toList == [45]) with
    | true =>
      have E : Hid (readT ar s.data.toList = ([], 1, true)) := by show _ = _; unfold readT; rw [if_pos (by simpa using hA)]
      have ht : (s.toList == [45]) = true := by rw [Lib.toList_data]; exact hA
      generalize readT ar s.data.toList = R at *
      clear hA hB hsz HP HP0
      go_enter Try.func115, Try.ntmps115
      go_wp2_with fail
      refine (HP1.out _).mono ?_; rintro e w1 ⟨rfl, rfl⟩
      go_wp2_with fail
      go_ret3
      exact ⟨_, _, _, by rw [E.out]; rfl, by rw [E.out]; exact OwnC.nil _ _ _, Bel.alloc0 _ _⟩
    | false =>
      have E : Hid (readT ar s.data.toList = ([], 1, false)) := by show _ = _; unfold readT; rw [if_neg (by simpa using hA), if_pos hB]
      have ht : (s.toList == [45]) = false := by rw [Lib.toList_data]; exact hA
      generalize readT ar s.data.toList = R at *
      clear hA hB hsz HP HP0
      go_enter Try.func115, Try.ntmps115
      go_wp2_with fail
      refine (HP1.out _).mono ?_; rintro e w1 ⟨rfl, rfl⟩
      go_wp2_with fail
      go_ret3
      exact ⟨_, _, _, by rw [E.out]; rfl, by rw [E.out]; exact OwnC.nil _ _ _, Bel.alloc0 _ _⟩
  · have HP1 := Lib.hid (fun w' => HP0.out false w' (decide_eq_false hB))
    have hA : ¬ s.data.toList = [45] := fun h => hB (by rw [h]; rfl)
    have hR : readLits ar s.data.toList (s.size + 1) 0 [] = readT ar s.data.toList := by unfold readT; rw [if_neg hA, if_neg hB, hsz]
    have HS := Lib.hid (fun (p : Nat) (w' : World) (hp : p ≤ s.size) (hb : Bel w w') => scanLit_c l h v ar s p w' hg hs hp (hv.below hb))
    have HPOS := Lib.hid (fun (p : Nat) (hp : p ≤ s.size) => litAt_ok (ar := ar) (T := s.data.toList) (p := p) (by omega))
    have HR0 := Lib.hid hR
    generalize readT ar s.data.toList = R at *
    clear hA hB hR HP0 hv
    go_enter Try.func115, Try.ntmps115
    go_wp2_with fail
    refine (HP1.out _).mono ?_; rintro e w1 ⟨rfl, rfl⟩
    go_wp2_with fail
    go_loopw [7, 8] (fun o a wr => ∃ (f p : Nat) (acc : List Lt), p ≤ s.size ∧ a = .int .i64 p ∧ RowCO (w.heap.size + 1) wr o acc ∧ readLits ar s.data.toList f p acc = R ∧ s.size + 1 - p ≤ f ∧ acc.length ≤ p ∧ Bel (w.alloc (.cells #[v] 29)) wr) (fun _ a _ => s.size + 1 - (intOf a).toNat)
    case atStart => exact ⟨s.size + 1, 0, [], Nat.zero_le _, rfl, RowCO.nil _ _, HR0.out, by omega, by simp, Bel.rfl' _⟩
    case round =>
      obtain ⟨f0, p, acc, hp, rfl, hrow, hR, hf, hal, hbL⟩ := hrel
      obtain ⟨f, rfl⟩ : ∃ f, f0 = f + 1 := ⟨f0 - 1, by omega⟩
      have hbox := boxc hbL 0 _ rfl
      have HHBL := Lib.hid hbL
      have HROW := Lib.hid hrow
      have hbz := hbL.size
      simp only [World.size_alloc] at hbz
      have HS1 := Lib.hid (HS.out p _ hp hbL.of_alloc)
      have hle1 := HPOS.out p hp
      have HB0 := fun h => lits_lit0 (ar := ar) (T := s.data.toList) (f := f) (p := p) (acc := acc) h
      have HEN := fun h h1 => lits_litEnd (ar := ar) (T := s.data.toList) (f := f) (p := p) (acc := acc) h h1
      have HBA := fun c h h1 h2 => lits_litBar (c := c) (ar := ar) (T := s.data.toList) (f := f) (p := p) (acc := acc) h h1 h2
      have HMO := fun h h1 => lits_litMore (ar := ar) (T := s.data.toList) (f := f) (p := p) (acc := acc) h h1
      generalize litAt ar s.data.toList p = r1 at *
      obtain ⟨x, q, k⟩ := r1
      simp only at hle1 HB0 HEN HBA HMO
      rw [hsz] at hle1
      clear hrow hbL
      go_wp2_with fail
      refine HS1.out.mono ?_; rintro e w1 ⟨p0, a1, n1, c1, a2, n2, c2, m, rfl, hb1, hown1⟩
      cases k with
      | false =>
        have E : Hid (R = ([], q, false)) := by show _ = _; rw [← hR]; exact HB0 rfl
        clear HB0 HEN HBA HMO hR hown1
        go_wp2_with fail
        go_ret3
        exact ⟨_, _, _, by rw [E.out]; rfl, by rw [E.out]; exact OwnC.nil _ _ _, (HHBL.out.of_alloc.step hb1).alloc _⟩
      | true =>
        obtain ⟨hp0, hm1, hm2, o1, o2⟩ := hown1 rfl
        simp only at hp0 o1 o2
        obtain ⟨hpq, hwq⟩ := hle1.2 rfl
        obtain ⟨px, xl, xr⟩ := x
        simp only at hp0 o1 o2
        subst hp0
        obtain ⟨zs, hown, hzl, hnext⟩ := HROW.out.step hb1 (Bel.alloc2 w1 (.cells #[.bool p0, .slice a1 n1 c1, .slice a2 n2 c2] 106) (.cells #[.bool p0, .slice a1 n1 c1, .slice a2 n2 c2] 106)) o1 o2 (Nat.le_refl _) hm1 hm2 (Nat.le_refl _) (.inl (Nat.le_refl _)) hbz p0
        have HNX := Lib.hid hnext
        have HZ2 : w.heap.size + 1 ≤ ((w1.alloc (.cells #[.bool p0, .slice a1 n1 c1, .slice a2 n2 c2] 106)).alloc (.cells #[.bool p0, .slice a1 n1 c1, .slice a2 n2 c2] 106)).heap.size := by have h1 := hb1.size; simp; omega
        have hzp : zs.length ≤ 1000 := by omega
        have HQ := hle1.1
        clear hnext o1 o2 hown1
        by_cases hlast : q = s.size
        · have hnone : s.data.toList[q]? = none := List.getElem?_eq_none (by rw [hsz]; omega)
          have E : Hid (R = (acc ++ [(p0, xl, xr)], q, true)) := by show _ = _; rw [← hR]; exact HEN rfl hnone
          have he2 : ((q : Int) == s.size) = true := by rw [hlast]; exact beq_self_eq_true _
          have HL2 := Lib.hid hlast
          clear HB0 HEN HBA HMO hlast hnone hR
          go_wp2_with (at_builtin; refine wpList_append_own_at _ rfl _ _ 54 rfl (w.heap.size + 1) 106 i0 (.agg #[.bool false, .slice none 0 0, .slice none 0 0]) 3 56 Try.underlying54 hi0 hz0 hz1 hz2 rfl (by decide) _ _ _ rfl hown _ _ _ [.bool p0, .slice a1 n1 c1, .slice a2 n2 c2] rfl rfl (news_lit _ _ _ _ _ _ (by simp)) (one_lit _ _ _ _ _ _ _) (by unfold maxLen; omega) (by omega) HZ2 ?_; intro v' w4 hown' hgrow _ hat)
          have hR5 := HNX.out w4 v' (rowC_lit hown') hgrow hat
          obtain ⟨av, cv, rfl⟩ := hR5.form
          have hB4 := (((HHBL.out.of_alloc.step hb1).alloc (.cells #[.bool p0, .slice a1 n1 c1, .slice a2 n2 c2] 106)).alloc (.cells #[.bool p0, .slice a1 n1 c1, .slice a2 n2 c2] 106)).grown hgrow (fun q hq => Nat.le_of_succ_le (own_base hown q hq))
          go_wp2_with fail
          go_ret3
          exact ⟨_, _, _, by rw [E.out]; rfl, by rw [E.out]; exact hR5.own.mono (by omega) (Nat.le_refl _), hB4⟩
        · have hqlt : q < s.size := by omega
          have hg2 := sa_get s q hqlt
          have he2 : ((q : Int) == s.size) = false := beq_eq_false_iff_ne.2 (by omega)
          have hi2 : (q : Int) ≤ s.size := by omega
          by_cases hbar : s[q] = 124
          · have E : Hid (readLits ar s.data.toList f (q + 1) (acc ++ [(p0, xl, xr)]) = R) := by show _ = _; rw [← hR]; exact (HMO rfl (by rw [hg2, hbar])).symm
            have HPB := Lib.hid (fun w' => HP.out q 124 true w' (decide_eq_true (by rw [hg2, hbar])) (by omega))
            have hw2 := IntWalk.i64_in ((q : Int) + 1) (by omega)
            clear HB0 HEN HBA HMO hlast hbar hg2 hR
            go_wp2_with (at_builtin; refine wpList_append_own_at _ rfl _ _ 54 rfl (w.heap.size + 1) 106 i0 (.agg #[.bool false, .slice none 0 0, .slice none 0 0]) 3 56 Try.underlying54 hi0 hz0 hz1 hz2 rfl (by decide) _ _ _ rfl hown _ _ _ [.bool p0, .slice a1 n1 c1, .slice a2 n2 c2] rfl rfl (news_lit _ _ _ _ _ _ (by simp)) (one_lit _ _ _ _ _ _ _) (by unfold maxLen; omega) (by omega) HZ2 ?_; intro v' w4 hown' hgrow _ hat)
            have hR5 := HNX.out w4 v' (rowC_lit hown') hgrow hat
            have hB4 := (((HHBL.out.step hb1).alloc (.cells #[.bool p0, .slice a1 n1 c1, .slice a2 n2 c2] 106)).alloc (.cells #[.bool p0, .slice a1 n1 c1, .slice a2 n2 c2] 106)).grown hgrow (fun q hq => by have := own_base hown q hq; simp; omega)
            go_wp2_with fail
            refine (HPB.out _).mono ?_; rintro e w5 ⟨rfl, rfl⟩
            go_wp2_with fail
            go_roundw
            case rel => exact ⟨f, q + 1, _, by omega, by go_num, hR5, E.out, by omega, by simp; omega, hB4⟩
            case measure => simp [intOf]; omega
          · have E : Hid (R = ([], q, false)) := by show _ = _; rw [← hR]; exact HBA _ rfl hg2 hbar
            have HPB := Lib.hid (fun w' => HP.out q 124 false w' (decide_eq_false (by rw [hg2]; simpa using hbar)) (by omega))
            clear HB0 HEN HBA HMO hlast hbar hg2 hR
            go_wp2_with (at_builtin; refine wpList_append_own_at _ rfl _ _ 54 rfl (w.heap.size + 1) 106 i0 (.agg #[.bool false, .slice none 0 0, .slice none 0 0]) 3 56 Try.underlying54 hi0 hz0 hz1 hz2 rfl (by decide) _ _ _ rfl hown _ _ _ [.bool p0, .slice a1 n1 c1, .slice a2 n2 c2] rfl rfl (news_lit _ _ _ _ _ _ (by simp)) (one_lit _ _ _ _ _ _ _) (by unfold maxLen; omega) (by omega) HZ2 ?_; intro v' w4 hown' hgrow _ hat)
            have hB4 := (((HHBL.out.of_alloc.step hb1).alloc (.cells #[.bool p0, .slice a1 n1 c1, .slice a2 n2 c2] 106)).alloc (.cells #[.bool p0, .slice a1 n1 c1, .slice a2 n2 c2] 106)).grown hgrow (fun q hq => Nat.le_of_succ_le (own_base hown q hq))
            go_wp2_with fail
            refine (HPB.out _).mono ?_; rintro e w5 ⟨rfl, rfl⟩
            go_wp2_with fail
            go_ret3
            exact ⟨_, _, _, by rw [E.out]; rfl, by rw [E.out]; exact OwnC.nil _ _ _, hB4⟩

theorem iGoodClause_q {l h l' h' : Nat} {v u : Value} {ar : List Int} {c : List Lt} {w : World} {q : Bool} (hq : okLits ar c = q) (hg : goodSign ar = true) (ha : ar.length ≤ 1048576) (hv : SlI l h w v ar) (hc : shortC c) (hu : SlC l' h' w u c) :
    Calls Try.prog 53 #[.agg #[v], u] w (RetV w (.bool q)) := by
  have := iGoodClause_sh ha hv hc hu
  rwa [show goodClause ar c = q from by unfold goodClause; rw [hg, hq]; rfl] at this

set_option maxRecDepth 100000 in
set_option maxHeartbeats 1000000 in
theorem iReadClause_h {l h : Nat} {v : Value} {ar : List Int} {s : ByteArray} {w : World} (ha : ar.length ≤ 1048576) (hv : SlI l h w v ar) (hs : s.size ≤ 1048576) (hsh : s.size ≤ 1000 → (readT ar s.data.toList).2.2 = true → shortC (readT ar s.data.toList).1) :
    Calls Try.prog 67 #[.agg #[v], .string s] w (RetRC w (readClAns ar s)) := by
  unfold readClAns
  cases hg : goodSign ar with
  | false =>
    rw [if_neg (by simp)]
    have HG := Lib.hid (fun (w' : World) (hb : Bel w w') => iGoodSign_v l h v ar false w' hg ha (hv.below hb)); clear hg
    go_enter Try.func67, Try.ntmps67
    go_wp2_with fail
    refine (HG.out _ (Bel.alloc0 _ _)).mono ?_; rintro e w1 ⟨rfl, hb1⟩
    go_wp2_with fail
    go_ret3
    exact ⟨_, _, _, rfl, OwnC.nil _ _ _, hb1.of_alloc⟩
  | true =>
    have HG := Lib.hid (fun (w' : World) (hb : Bel w w') => iGoodSign_v l h v ar true w' hg ha (hv.below hb))
    by_cases hsz : s.size ≤ 1000
    · rw [if_pos ⟨rfl, hsz⟩]
      have hI : ¬ ((1000 : Int) < s.size) := by omega
      have HR := Lib.hid (fun (w' : World) (hb : Bel w w') => scanClause_c l h v ar s w' hg hsz (hv.below hb))
      have HC := fun (q : Bool) (w' : World) (u : Value) (l' h' : Nat) (hq : okLits ar (readT ar s.data.toList).1 = q) (hb : Bel w w') (hk : (readT ar s.data.toList).2.2 = true) (hu : SlC l' h' w' u (readT ar s.data.toList).1) => iGoodClause_q hq hg ha (hv.below hb) (hsh hsz hk) hu
      clear hg hsh
      generalize readT ar s.data.toList = R at *
      obtain ⟨c, at', k⟩ := R
      simp only at *
      cases k with
      | false =>
        rw [if_neg (by simp)]
        clear HC
        go_enter Try.func67, Try.ntmps67
        go_wp2_with fail
        refine (HG.out _ (Bel.alloc0 _ _)).mono ?_; rintro e w1 ⟨rfl, hb1⟩
        have hbx := boxc hb1 0 _ rfl
        go_wp2_with fail
        refine (HR.out _ hb1.of_alloc).mono ?_; rintro e w2 ⟨a2, n2, c2, rfl, o2, hb2⟩
        go_wp2_with fail
        go_ret3
        exact ⟨_, _, _, rfl, OwnC.nil _ _ _, hb1.of_alloc.step hb2⟩
      | true =>
        rw [if_pos rfl]
        cases hq : okLits ar c with
        | false =>
          rw [if_neg (by simp)]
          have HCC := Lib.hid (fun w' u l' h' => HC false w' u l' h' hq)
          clear HC hq
          go_enter Try.func67, Try.ntmps67
          go_wp2_with fail
          refine (HG.out _ (Bel.alloc0 _ _)).mono ?_; rintro e w1 ⟨rfl, hb1⟩
          have hbx := boxc hb1 0 _ rfl
          go_wp2_with fail
          refine (HR.out _ hb1.of_alloc).mono ?_; rintro e w2 ⟨a2, n2, c2, rfl, o2, hb2⟩
          have hbx2 := boxc (hb1.step hb2) 0 _ rfl
          go_wp2_with fail
          refine (HCC.out _ _ _ _ (hb1.of_alloc.step hb2) trivial o2.sl).mono ?_; rintro e w3 ⟨rfl, hb3⟩
          go_wp2_with fail
          go_ret3
          exact ⟨_, _, _, rfl, OwnC.nil _ _ _, (hb1.of_alloc.step hb2).step hb3⟩
        | true =>
          rw [if_pos rfl]
          have HCC := Lib.hid (fun w' u l' h' => HC true w' u l' h' hq)
          clear HC hq
          go_enter Try.func67, Try.ntmps67
          go_wp2_with fail
          refine (HG.out _ (Bel.alloc0 _ _)).mono ?_; rintro e w1 ⟨rfl, hb1⟩
          have hbx := boxc hb1 0 _ rfl
          go_wp2_with fail
          refine (HR.out _ hb1.of_alloc).mono ?_; rintro e w2 ⟨a2, n2, c2, rfl, o2, hb2⟩
          have hbx2 := boxc (hb1.step hb2) 0 _ rfl
          go_wp2_with fail
          refine (HCC.out _ _ _ _ (hb1.of_alloc.step hb2) trivial o2.sl).mono ?_; rintro e w3 ⟨rfl, hb3⟩
          go_wp2_with fail
          go_ret3
          exact ⟨_, _, _, rfl, (o2.below hb3).mono (by have := hb1.of_alloc.size; omega) hb3.size, (hb1.of_alloc.step hb2).step hb3⟩
    · rw [if_neg (fun h => hsz h.2)]
      have hI : (1000 : Int) < s.size := by omega
      clear hg hsh
      go_enter Try.func67, Try.ntmps67
      go_wp2_with fail
      refine (HG.out _ (Bel.alloc0 _ _)).mono ?_; rintro e w1 ⟨rfl, hb1⟩
      go_wp2_with fail
      go_ret3
      exact ⟨_, _, _, rfl, OwnC.nil _ _ _, hb1.of_alloc⟩

theorem sReadClause_t {l h : Nat} {v : Value} {ar : List Int} {s : ByteArray} {w : World} (ha : ar.length ≤ 1048576) (hv : SlI l h w v ar) (hs : s.size ≤ 1048576) :
    Calls Try.prog 69 #[.agg #[v], .string s] w (RetRC w (readClAns ar s)) := sReadClause_h ha hv hs (fun h1 h2 => readT_short h1 h2)
theorem iReadClause_t {l h : Nat} {v : Value} {ar : List Int} {s : ByteArray} {w : World} (ha : ar.length ≤ 1048576) (hv : SlI l h w v ar) (hs : s.size ≤ 1048576) :
    Calls Try.prog 67 #[.agg #[v], .string s] w (RetRC w (readClAns ar s)) := iReadClause_h ha hv hs (fun h1 h2 => readT_short h1 h2)
end Go.Proofs.Ytikllmdmifecpaa
end
section
/- Chapter 4: the position that ReadClause gives lies in the text. No program. -/
namespace Go.Proofs.Ytikllmdmifecpaa

section
variable {ar : List Int} {T : List UInt8}
theorem lits_pos : ∀ (f p : Nat) (acc : List Lt), p ≤ T.length → (readLits ar T f p acc).2.1 ≤ T.length := by
  intro f
  induction f with
  | zero => intro p acc h; exact h
  | succ f ih =>
    intro p acc hp
    have h1 := (rdT_ok (ar := ar) hp).1
    unfold readLits
    by_cases a : (rdT ar T p).2.2 = true
    · rw [if_pos a]
      cases hb : T[(rdT ar T p).2.1]? with
      | none => exact h1
      | some b =>
        have hq1 : (rdT ar T p).2.1 < T.length := (List.getElem?_eq_some_iff.1 hb).1
        have h2 := (rdT_ok (ar := ar) (p := (rdT ar T p).2.1 + 1) hq1).1
        simp only
        split
        · split
          · cases hc : T[(rdT ar T ((rdT ar T p).2.1 + 1)).2.1]? with
            | none => exact h2
            | some c =>
              simp only
              split
              · exact ih _ _ (List.getElem?_eq_some_iff.1 hc).1
              · exact h2
          · exact h2
        · exact h1
    · rw [if_neg a]; exact h1
end
end Go.Proofs.Ytikllmdmifecpaa
end
section
/- Contracts of clause texts with the answers named. -/
namespace Go.Proofs.Ytikllmdmifecpaa
open Go.RowKit

theorem readCl_pos (ar : List Int) (s : ByteArray) : (readClAns ar s).2.1 ≤ s.size := by
  unfold readClAns
  split
  · have h : (readT ar s.data.toList).2.1 ≤ s.size := by
      rw [ba_size]
      unfold readT
      split
      · rename_i e; rw [e]; simp
      · split
        · rename_i e; exact (List.getElem?_eq_some_iff.1 e).1
        · exact lits_pos _ _ _ (Nat.zero_le _)
    split
    · split
      · exact h
      · exact Nat.zero_le _
    · exact h
  · exact Nat.zero_le _
theorem slC_n {lo hi : Nat} {w : World} {ad : Option Addr} {n k : Nat} {c : List Lt} (h : SlC lo hi w (.slice ad n k) c) : n = c.length := h.len
theorem iClauseText_vv {l h l' h' : Nat} {v u : Value} {ar : List Int} {c : List Lt} {w : World} (ha : ar.length ≤ 1048576) (hv : SlI l h w v ar) (hc : sumC c ≤ 1048576) (hu : SlC l' h' w u c) {s : ByteArray} {k : Bool} (e1 : textClA ar c = s) (e2 : goodClause ar c = k) :
    Calls Try.prog 65 #[.agg #[v], u] w (RetV w (.tuple #[.string s, .bool k])) := by subst e1 e2; exact iClauseText_t ha hv hc hu
theorem iReadClause_vv {l h : Nat} {v : Value} {ar : List Int} {w : World} (ha : ar.length ≤ 1048576) (hv : SlI l h w v ar) {s : ByteArray} (hs : s.size ≤ 1048576) {y : List Lt} {p : Nat} {k : Bool} (e : readClAns ar s = (y, p, k)) :
    Calls Try.prog 67 #[.agg #[v], .string s] w (RetRC w (y, p, k)) := by rw [← e]; exact iReadClause_t ha hv hs
theorem sClauseText_vv {l h l' h' : Nat} {v u : Value} {ar : List Int} {c : List Lt} {w : World} (ha : ar.length ≤ 1048576) (hv : SlI l h w v ar) (hc : sumC c ≤ 1048576) (hu : SlC l' h' w u c) {s : ByteArray} {k : Bool} (e1 : textClA ar c = s) (e2 : goodClause ar c = k) :
    Calls Try.prog 66 #[.agg #[v], u] w (RetV w (.tuple #[.string s, .bool k])) := by subst e1 e2; exact sClauseText_t ha hv hc hu
theorem sReadClause_vv {l h : Nat} {v : Value} {ar : List Int} {w : World} (ha : ar.length ≤ 1048576) (hv : SlI l h w v ar) {s : ByteArray} (hs : s.size ≤ 1048576) {y : List Lt} {p : Nat} {k : Bool} (e : readClAns ar s = (y, p, k)) :
    Calls Try.prog 69 #[.agg #[v], .string s] w (RetRC w (y, p, k)) := by rw [← e]; exact sReadClause_t ha hv hs
theorem textCl_read {ar : List Int} {s : ByteArray} {y : List Lt} {p : Nat} (h : readClAns ar s = (y, p, true)) : goodClause ar y = true ∧ textClA ar y = s := by
  have := text_readCl (ar := ar) (s := s) (by rw [h])
  rwa [h] at this
theorem readCl_facts {ar : List Int} {s : ByteArray} {y : List Lt} {p : Nat} {k : Bool} (h : readClAns ar s = (y, p, k)) : sumC y ≤ 1048576 ∧ p ≤ s.size := by
  have h1 := readClAns_len ar s
  have h2 := readCl_pos ar s
  rw [h] at h1 h2
  exact ⟨h1, h2⟩
end Go.Proofs.Ytikllmdmifecpaa
end
