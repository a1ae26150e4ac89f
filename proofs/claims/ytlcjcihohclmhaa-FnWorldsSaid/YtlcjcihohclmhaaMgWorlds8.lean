/- Texts merged, part 8. -/
import Derived.Deep.RegionWith
import Derived.Deep.AppendLies
import Derived.Maps.AppendAt
import Derived.Deep.RegionHeldLaw
import Derived.Laws.BytesString
import Derived.Test.YtlcjcihohclmhaaMgWorlds7
section
/- Chapter 5, the reference: FalseAt. -/
namespace Go.Proofs.Ytlcjcihohclmhaa
open Go.RowKit

theorem make12 (w : World) : (Instr.makeSlice 24 (.int .i64 12) (.int .i64 12)).run Try.prog w = .ok (.slice (some ⟨w.heap.size, 0, none⟩) 12 12) (w.alloc (.cells #[.int .i64 0, .int .i64 0, .int .i64 0, .int .i64 0, .int .i64 0, .int .i64 0, .int .i64 0, .int .i64 0, .int .i64 0, .int .i64 0, .int .i64 0, .int .i64 0] 3)) := by kernel_rfl
theorem zeros_own (w : World) : OwnI w.heap.size (w.heap.size + 1) (w.alloc (.cells #[.int .i64 0, .int .i64 0, .int .i64 0, .int .i64 0, .int .i64 0, .int .i64 0, .int .i64 0, .int .i64 0, .int .i64 0, .int .i64 0, .int .i64 0, .int .i64 0] 3)) (.slice (some ⟨w.heap.size, 0, none⟩) 12 12) zeros12 := by
  refine ⟨⟨_, 12, rfl, Nat.le_refl _, ⟨by decide, fun h => by simp at h⟩, fun _ => ⟨w.heap.size, 0, rfl, Nat.le_refl _, Nat.lt_succ_self _, fun j hj => ?_⟩⟩, fun b off n c hv hn j => ?_⟩
  · rw [Nat.zero_add, World.cell?_alloc_new w]
    have : j < 12 := hj
    unfold zeros12
    match j, this with
    | 0, _ | 1, _ | 2, _ | 3, _ | 4, _ | 5, _ | 6, _ | 7, _ | 8, _ | 9, _ | 10, _ | 11, _ => rfl
  · simp only [Value.slice.injEq, Option.some.injEq, Addr.mk.injEq] at hv
    obtain ⟨⟨rfl, rfl, -⟩, rfl, rfl⟩ := hv
    exact World.frozen?_alloc_at _ _ _ _ rfl

def RetFA (w : World) (R : Option (List Int)) (x : Ending) (w' : World) : Prop := RetIB w (R.getD []) R.isSome x w'
set_option maxRecDepth 100000 in
set_option maxHeartbeats 1000000 in
theorem l5FalseAt_c (l h : Nat) (v u vc : Value) (ar : List Int) (Z : Nat) (tb : List (List Int)) (c : List Lt) (w : World) (hg : goodSign ar = true) (hw : isWorld ar Z tb = true) (hok : okLits ar c = true) (hsh : shortC c) (hh : h ≤ w.heap.size)
    (hv : SlI l h w v ar) (hu : SlS l h w u tb) (hc : SlC l h w vc c) :
    Calls Try.prog 31 #[.agg #[v], .agg #[.int .i64 (Z : Int), u], vc] w (RetFA w (lwC ar Z tb c)) := by
  obtain ⟨i0, hi0, hz0, hz1, hz2⟩ := info_parts Try.info3
  have HB : Bel w ((w.alloc (.cells #[v] 26)).alloc (.cells #[.int .i64 (Z : Int), u] 29)) := Bel.alloc2 _ _ _
  have KX : Hid (∀ w', Bel ((w.alloc (.cells #[v] 26)).alloc (.cells #[.int .i64 (Z : Int), u] 29)) w' → w'.cell? ⟨w.heap.size, 0, none⟩ = some v ∧ w'.cell? ⟨w.heap.size + 1, 0, none⟩ = some (.int .i64 (Z : Int)) ∧ w'.cell? ⟨w.heap.size + 1, 1, none⟩ = some u) := fun w' hb =>
    ⟨hb.at (by simp; omega) (by simp [go_sem]), hb.at (by simp) (by simp [go_sem]), hb.at (by simp) (by simp [go_sem])⟩
  have hlow : ∀ t ∈ flatC c, ∀ k, k < t.length → -12 ≤ t.getD k 0 := fun t ht => low_memC (fun n hn => ok_low (flat_ok (okLits_iff.1 hok).2 ht) hn)
  have HV := Lib.hid (fun (w' : World) (hb : Bel w w') => l4Vars_c l h vc c w' hsh hlow (hc.below hb))
  have hmk := make12
  have hvr : ∀ x ∈ varsC c, x < 12 := fun x hx => by
    unfold varsC varsTo at hx
    rw [List.mem_filter, List.mem_range] at hx
    exact hx.1
  have hvl : (varsC c).length ≤ 12 := varsTo_len _ _
  obtain ⟨z1, z3, _⟩ := isWorld_iff.1 hw
  have hzo : okEnv Z zeros12 = true := zeros_ok (by omega)
  have HF := Lib.hid (fun (eb : Nat) (w' : World) (vv ve : Value) (a b : Nat) (he1 : h ≤ eb) (hb : Bel w w') (s1 : SlI a b w' vv (natsI (varsC c))) (s2 : OwnI eb (eb + 1) w' ve zeros12) (hd : b ≤ eb ∨ eb + 1 ≤ a) (hs : eb + 1 ≤ w'.heap.size) => l5False_c l h v u vc ar Z tb c eb (eb + 1) hg hw hok (.inl he1) (Nat.le_refl _) (varsC c) zeros12 w' vv ve a b hvr hvl hzo (hv.below hb) (hu.below hb) (hc.below hb) s1 s2 hd hs)
  have HF : Hid (∀ (eb : Nat) (w' : World) (vv ve : Value) (a b : Nat), h ≤ eb → Bel w w' → SlI a b w' vv (natsI (varsC c)) → OwnI eb (eb + 1) w' ve zeros12 → (b ≤ eb ∨ eb + 1 ≤ a) → eb + 1 ≤ w'.heap.size → Calls Try.prog 63 #[.agg #[v], .agg #[.int .i64 (Z : Int), u], vc, vv, ve] w' (RetFal eb (eb + 1) ve (varsC c) zeros12 Z w' (lwC ar Z tb c))) := HF
  clear hv hu hc hw hg hok hvr hvl hzo hlow hsh
  unfold RetFA
  generalize lwC ar Z tb c = R at *
  cases R with
  | none =>
    go_enter Try.func31, Try.ntmps31
    go_wp2_with fail
    go_region_held3 (fun w' => Bel w w' ∧ w'.cell? ⟨w.heap.size, 0, none⟩ = some v ∧ w'.cell? ⟨w.heap.size + 1, 0, none⟩ = some (.int .i64 (Z : Int)) ∧ w'.cell? ⟨w.heap.size + 1, 1, none⟩ = some u)
      (first | exact ⟨HB.drew, KX.out _ (Bel.drew0 _)⟩ | exact ⟨HB.drew.alloc _, KX.out _ ((Bel.drew0 _).alloc _)⟩ | exact ⟨HB.step B8, KX.out _ B8⟩ | exact ⟨(HB.step B8).alloc _, KX.out _ (B8.alloc _)⟩ | exact ⟨HB.step BL, KX.out _ BL⟩ | fail)
      (first
        | (go_at_call 63; have q8 := hb8; refine (HF.out w8.heap.size _ _ _ _ _ (Nat.le_trans hh (HB.step B8).size) ((HB.step B8).alloc _) (o8.sl.alloc _) (zeros_own w8) (.inl (Nat.le_refl _)) (by simp)).mono ?_; rintro e w9 ⟨a9, n9, c9, rfl, hg9, e9, o9, hf9, hk9⟩; have BL : Bel ((w.alloc (.cells #[v] 26)).alloc (.cells #[.int .i64 (Z : Int), u] 29)) w9 := hg9.bel (B8.alloc _) B8.size)
        | (go_at_call 63; have q8 := hb8a; refine (HF.out (w.heap.size + 1 + 1) _ _ _ _ _ (by omega) (HB.step B8) o8.sl (by have h9 := (zeros_own ((w.alloc (.cells #[v] 26)).alloc (.cells #[.int .i64 (Z : Int), u] 29)).drew).below hb8a; simpa using h9) (.inr (by simp)) (by have h9 := hb8a.size; simp at h9; omega)).mono ?_; rintro e w9 ⟨a9, n9, c9, rfl, hg9, e9, o9, hf9, hk9⟩; have BL : Bel ((w.alloc (.cells #[v] 26)).alloc (.cells #[.int .i64 (Z : Int), u] 29)) w9 := hg9.bel B8 (by simp))
        | (go_at_call 62; refine (HV.out _ HB.drew).mono ?_; rintro e w8 ⟨a8, n8, c8, rfl, o8, hb8⟩; have B8 := (Bel.drew0 _).step hb8)
        | (go_at_call 62; refine (HV.out _ (HB.drew.alloc _)).mono ?_; rintro e w8 ⟨a8, n8, c8, rfl, o8, hb8a⟩; have B8 := ((Bel.drew0 _).alloc _).step hb8a)
        | fail)
    all_goals
      go_wp2_with fail
      go_ret2
      exact ⟨_, _, _, rfl, OwnI.nil _ _ _, HB.step BL⟩
  | some r =>
    go_enter Try.func31, Try.ntmps31
    go_wp2_with fail
    go_region_held3 (fun w' => Bel w w' ∧ w'.cell? ⟨w.heap.size, 0, none⟩ = some v ∧ w'.cell? ⟨w.heap.size + 1, 0, none⟩ = some (.int .i64 (Z : Int)) ∧ w'.cell? ⟨w.heap.size + 1, 1, none⟩ = some u)
      (first | exact ⟨HB.drew, KX.out _ (Bel.drew0 _)⟩ | exact ⟨HB.drew.alloc _, KX.out _ ((Bel.drew0 _).alloc _)⟩ | exact ⟨HB.step B8, KX.out _ B8⟩ | exact ⟨(HB.step B8).alloc _, KX.out _ (B8.alloc _)⟩ | exact ⟨HB.step BL, KX.out _ BL⟩ | fail)
      (first
        | (go_at_call 63; have q8 := hb8; refine (HF.out w8.heap.size _ _ _ _ _ (Nat.le_trans hh (HB.step B8).size) ((HB.step B8).alloc _) (o8.sl.alloc _) (zeros_own w8) (.inl (Nat.le_refl _)) (by simp)).mono ?_; rintro e w9 ⟨a9, n9, c9, rfl, o9, hg9⟩; have BL : Bel ((w.alloc (.cells #[v] 26)).alloc (.cells #[.int .i64 (Z : Int), u] 29)) w9 := hg9.bel (B8.alloc _) B8.size)
        | (go_at_call 63; have q8 := hb8a; refine (HF.out (w.heap.size + 1 + 1) _ _ _ _ _ (by omega) (HB.step B8) o8.sl (by have h9 := (zeros_own ((w.alloc (.cells #[v] 26)).alloc (.cells #[.int .i64 (Z : Int), u] 29)).drew).below hb8a; simpa using h9) (.inr (by simp)) (by have h9 := hb8a.size; simp at h9; omega)).mono ?_; rintro e w9 ⟨a9, n9, c9, rfl, o9, hg9⟩; have BL : Bel ((w.alloc (.cells #[v] 26)).alloc (.cells #[.int .i64 (Z : Int), u] 29)) w9 := hg9.bel B8 (by simp))
        | (go_at_call 62; refine (HV.out _ HB.drew).mono ?_; rintro e w8 ⟨a8, n8, c8, rfl, o8, hb8⟩; have B8 := (Bel.drew0 _).step hb8)
        | (go_at_call 62; refine (HV.out _ (HB.drew.alloc _)).mono ?_; rintro e w8 ⟨a8, n8, c8, rfl, o8, hb8a⟩; have B8 := ((Bel.drew0 _).alloc _).step hb8a)
        | fail)
    all_goals
      go_wp2_with fail
      go_ret2
      exact ⟨_, _, _, rfl, o9.mono (Nat.le_trans (HB.step B8).size (by simp)) (Nat.le_refl _), HB.step BL⟩
end Go.Proofs.Ytlcjcihohclmhaa
end
section
/- Chapter 5, the program: falseAt. -/
namespace Go.Proofs.Ytlcjcihohclmhaa
open Go.RowKit

theorem fInfo : (Try.prog.info? 83).map (fun i => (i.zero, i.size, i.bytes)) = some (some .nilFunc, 1, 8) := by kernel_rfl
abbrev RowF (lo : Nat) (w : World) (v : Value) (rs : List TR) : Prop := w.ownsRow lo 83 1 v rs.length (rs.map TR.f)
theorem step_append_fn {w : World} {ops : Array Oper} {o : Oper} {a : Act} {K : Act → World → Prop} {Q : Exit → Act → World → Prop} {E : Prop} (hgd : o.guard = none) (s x : Operand) (d : Nat) (hd : o.dst = some d)
    (ho : o.op = .call { callee := .builtin .append, args := #[s, x], argTypes := #[82, 82] })
    (base : Nat) (v : Value) (rs : List TR) (hs : a.eval s = v) (hown : RowF base w v rs) (g : Nat) (r : TR) (hx : a.eval x = .slice (some ⟨g, 0, none⟩) 1 1)
    (hnews : ∀ j u, [r.f][j]? = some u → w.cell? ((⟨g, 0, none⟩ : Addr).add j) = some u)
    (hl : rs.length ≤ 1048576) (hbase : base ≤ w.heap.size)
    (h : ∀ b k w', RowF base w' (.slice (some ⟨b, 0, none⟩) (rs.length + 1) k) (rs ++ [r]) → w.grownBy w' v.ownBlock → (v.ownBlock = some b ∨ b = w.heap.size) → K (a.put (some d) (.slice (some ⟨b, 0, none⟩) (rs.length + 1) k)) w') :
    if Region.wanted o (yielded ops a.tmps) = true then Oper.wp Try.prog o a w K Q else E := by
  obtain ⟨i0, hi0, hz0, hz1, hz2⟩ := info_parts fInfo
  rw [← hd] at h
  refine step_append_lies w hgd s x 82 ho base 83 i0 .nilFunc 1 8 (by kernel_rfl) hi0 hz0 hz1 hz2 rfl (by decide) v rs.length (rs.map TR.f) hs hown
    ⟨g, 0, none⟩ 1 1 [r.f] hx (by simp) hnews (fun u hu => by simp at hu; subst hu; rfl) (by decide) (by unfold maxLen; omega) (by omega) hbase w.heap.size rfl (fun b k w' h1 h2 h3 _ => ?_)
  refine h b k w' ?_ h2 h3
  show World.ownsRow _ _ _ _ _ _ _
  rw [List.map_append, List.length_append]
  exact h1

/-- The tests as they are collected. -/
structure Col (ar : List Int) (Z : Nat) (tb : List (List Int)) (H : Nat) (v u tv : Value) (c : List Lt) (rs : List TR) (w : World) : Prop where
  tests : Tests ar Z tb 0 H v u (H + 3) c rs w
  row : RowF (H + 3) w tv rs
  off : ∀ g, tv.ownBlock = some g → ∀ r ∈ rs, g < r.lo ∨ r.hi ≤ g
theorem Col.nil {ar : List Int} {Z : Nat} {tb : List (List Int)} {H : Nat} {v u : Value} {w : World} : Col ar Z tb H v u (.slice none 0 0) [] [] w := ⟨Tests.nil, World.ownsRow_nil _ _ _ _, fun g h => by simp [Value.ownBlock] at h⟩
theorem Col.bel {ar : List Int} {Z : Nat} {tb : List (List Int)} {H : Nat} {v u tv : Value} {c : List Lt} {rs : List TR} {w w' : World} (h : Col ar Z tb H v u tv c rs w) (k : Bel w w') : Col ar Z tb H v u tv c rs w' := ⟨h.tests.bel k, ownsRow_bel h.row k, h.off⟩
theorem own_lt {w : World} {base e s n : Nat} {v : Value} {xs : List Value} (h : w.ownsRow base e s v n xs) {g : Nat} (hg : v.ownBlock = some g) : base ≤ g ∧ g < w.heap.size := by
  obtain ⟨_, h0 | ⟨g', cap, cur, rfl, h2, h3, _⟩⟩ := h
  · rw [h0.1] at hg; simp [Value.ownBlock] at hg
  · simp only [Value.ownBlock, Option.some.injEq] at hg
    subst hg
    refine ⟨h2, ?_⟩
    rcases Nat.lt_or_ge g' w.heap.size with h | h
    · exact h
    · rw [Array.getElem?_eq_none (by omega)] at h3; simp at h3
/-- A store below. -/
theorem Col.low {ar : List Int} {Z : Nat} {tb : List (List Int)} {H : Nat} {v u tv : Value} {c : List Lt} {rs : List TR} {w : World} (h : Col ar Z tb H v u tv c rs w) {p : Addr} (hp : H ≤ p.block) (hp2 : p.block < H + 3) (x : Value) : Col ar Z tb H v u tv c rs (w.setCell p x) := by
  refine ⟨h.tests.chg (Chg.set (lo := p.block) (hi := p.block + 1) w (Nat.le_refl _) (Nat.lt_succ_self _) x) (fun r hr => .inl (by have := h.tests.cur hr; omega)) (.inr hp), ?_, h.off⟩
  obtain ⟨h1, h0 | ⟨g, cap, cur, e1, e2, hh, r⟩⟩ := h.row
  · exact ⟨h1, .inl h0⟩
  · exact ⟨h1, .inr ⟨g, cap, cur, e1, e2, by rw [Below.heap_setCell w p x g (by omega)]; exact hh, r⟩⟩
/-- One more. -/
theorem Col.snoc {ar : List Int} {Z : Nat} {tb : List (List Int)} {H : Nat} {v u tv : Value} {c : List Lt} {rs : List TR} {w w' : World} {x : Lt} {r : TR} {b k : Nat} (h : Col ar Z tb H v u tv c rs w)
    (ho : TR.ok ar Z tb 0 H v u x r w) (hlo : H + 3 ≤ r.lo) (h1 : ∀ s ∈ rs, s.hi ≤ r.lo) (h2 : ∀ g, tv.ownBlock = some g → g < r.lo)
    (hrow : RowF (H + 3) w' (.slice (some ⟨b, 0, none⟩) (rs.length + 1) k) (rs ++ [r])) (hg : w.grownBy w' tv.ownBlock) (hb : tv.ownBlock = some b ∨ b = w.heap.size) :
    Col ar Z tb H v u (.slice (some ⟨b, 0, none⟩) (rs.length + 1) k) (c ++ [x]) (rs ++ [r]) w' := by
  have hT := h.tests.snoc hlo ho h1
  have hall : ∀ s ∈ rs ++ [r], s.hi ≤ w.heap.size := fun s hs => by have := hT.cur hs; omega
  have hoff : ∀ g, tv.ownBlock = some g → ∀ s ∈ rs ++ [r], g < s.lo ∨ s.hi ≤ g := fun g hg s hs => by
    rcases List.mem_append.1 hs with h' | h'
    · exact h.off g hg s h'
    · simp at h'; subst h'; exact .inl (h2 g hg)
  refine ⟨?_, hrow, fun g hg' s hs => ?_⟩
  · cases e : tv.ownBlock with
    | none =>
      rw [e] at hg
      exact hT.bel ((Bel.rfl' w).grown hg (fun k hk => by simp at hk))
    | some g =>
      rw [e] at hg
      have hlt := own_lt h.row e
      have hk : Chg g (g+1) w w' := ⟨hg.os, hg.tape, hg.output, hg.size, fun k hk ho => hg.block k hk (by simp; omega)⟩
      exact hT.chg hk (fun s hs => by have := hoff g e s hs; omega) (.inr (by omega))
  · simp only [Value.ownBlock, Option.some.injEq] at hg'
    subst hg'
    rcases hb with hb | rfl
    · exact hoff b hb s hs
    · exact .inr (hall s hs)

theorem Col.ts {ar : List Int} {Z : Nat} {tb : List (List Int)} {H : Nat} {v u tv : Value} {c : List Lt} {rs : List TR} {w : World} (h : Col ar Z tb H v u tv c rs w) (hc : w.cell? ⟨H + 2, 0, none⟩ = some tv) (hz : H + 3 ≤ w.heap.size) :
    ∃ ad cap, TS ar Z tb 0 H v u (H + 3) w.heap.size (H + 2) ad cap c rs w ∧ ∀ bT, ad = some ⟨bT, 0, none⟩ → bT < w.heap.size := by
  have hcur : ∀ r ∈ rs, r.hi ≤ w.heap.size := fun r hr => by have := h.tests.cur hr; omega
  have hrow := h.row
  obtain ⟨h1, h0 | ⟨g, cap, cur, e1, e2, hh, r⟩⟩ := hrow
  · have hr0 : rs = [] := List.length_eq_zero_iff.1 h0.2
    refine ⟨none, 0, ⟨h.tests, Nat.lt_succ_self _, hcur, ⟨hz, Nat.le_refl _⟩, by rw [hc, h0.1, hr0]; rfl, fun hp => by rw [hr0] at hp; simp at hp⟩, fun bT hb => by simp at hb⟩
  · subst e1
    have hl := own_lt h.row (g := g) rfl
    refine ⟨some ⟨g, 0, none⟩, cap, ⟨h.tests, Nat.lt_succ_self _, hcur, ⟨hz, Nat.le_refl _⟩, hc, fun _ => ⟨g, rfl, h.off g rfl, fun j s hs => ?_⟩⟩, fun bT hb => ?_⟩
    · have hj : j < rs.length := (List.getElem?_eq_some_iff.1 hs).1
      rw [h.row.cellAt j (by omega), List.getElem?_map, hs]
      rfl
    · simp only [Option.some.injEq, Addr.mk.injEq, and_true] at hb
      subst hb
      exact hl.2

def RetTR (ar : List Int) (Z : Nat) (tb : List (List Int)) (H : Nat) (v u : Value) (x : Lt) (w : World) (e : Ending) (w' : World) : Prop :=
  ∃ r : TR, e = .returned (.func (.func 75) #[] #[.pointer (some ⟨r.p7, 0, none⟩), .pointer (some ⟨r.p4, 0, none⟩), .pointer (some ⟨r.p8, 0, none⟩), .pointer (some ⟨r.p3, 0, none⟩), .pointer (some ⟨r.p5, 0, none⟩)]) ∧ TR.ok ar Z tb 0 H v u x r w' ∧ r.lo = w.heap.size ∧ r.hi = w'.heap.size ∧ Bel w w'
theorem litTest_r (ar : List Int) (Z : Nat) (tb : List (List Int)) (H : Nat) (x : Lt) (v u u1 u2 : Value) (w : World) (z1 : 1 ≤ Z) (z3 : Z ≤ 3) (hH : H ≤ w.heap.size)
    (o1 : okTerm ar x.2.1 = true) (o2 : okTerm ar x.2.2 = true)
    (hv : SlI 0 H w v ar) (hu : SlS 0 H w u tb) (s1 : SlI 0 H w u1 x.2.1) (s2 : SlI 0 H w u2 x.2.2) :
    Calls Try.prog 56 #[.agg #[v], .agg #[.int .i64 (Z : Int), u], .agg #[.bool x.1, u1, u2]] w (RetTR ar Z tb H v u x w) := by
  refine (litTest_c ar Z tb 0 H x v u u1 u2 w z1 z3 hH o1 o2 hv hu s1 s2).mono ?_
  rintro e w' ⟨p7, p4, p8, p3, p5, bk, a7, c7, ks, rfl, T, hb⟩
  exact ⟨⟨w.heap.size, w'.heap.size, p7, p4, p8, p3, p5, bk, c7, a7, u1, u2⟩, rfl, ⟨ks, T⟩, rfl, rfl, hb⟩
end Go.Proofs.Ytlcjcihohclmhaa
end
section
/- The laws' helpers over slices of clauses: copies. -/
namespace Go.Proofs.Ytlcjcihohclmhaa
open Go.RowKit

/-- Clauses of the call's own, one behind the other. -/
def InsC (lo hi : Nat) (w : World) (us : List Value) (cs : List (List Lt)) (bs : Nat → Nat × Nat) : Prop :=
  us.length = cs.length ∧ ∀ j u, us[j]? = some u → lo ≤ (bs j).1 ∧ (bs j).1 ≤ (bs j).2 ∧ (bs j).2 ≤ hi ∧ OwnC (bs j).1 (bs j).2 w u (cs.getD j []) ∧ ∀ i, i < j → (bs i).2 ≤ (bs j).1
theorem InsC.nil (lo hi : Nat) (w : World) (bs : Nat → Nat × Nat) : InsC lo hi w [] [] bs := ⟨rfl, fun j u h => by simp at h⟩
theorem InsC.same {lo hi : Nat} {w w' : World} {us : List Value} {cs : List (List Lt)} {bs : Nat → Nat × Nat} (h : InsC lo hi w us cs bs) (hs : ∀ b, lo ≤ b → b < hi → b < w.heap.size → w'.heap[b]? = w.heap[b]?) : InsC lo hi w' us cs bs :=
  ⟨h.1, fun j u hj => by
    obtain ⟨a, b, c, d, e⟩ := h.2 j u hj
    exact ⟨a, b, c, d.same fun q h1 h2 h3 => hs q (by omega) (by omega) h3, e⟩⟩
theorem InsC.mono {lo hi lo' hi' : Nat} {w : World} {us : List Value} {cs : List (List Lt)} {bs : Nat → Nat × Nat} (h : InsC lo hi w us cs bs) (h1 : lo' ≤ lo) (h2 : hi ≤ hi') : InsC lo' hi' w us cs bs :=
  ⟨h.1, fun j u hj => by
    obtain ⟨a, b, c, d, e⟩ := h.2 j u hj
    exact ⟨by omega, b, by omega, d, e⟩⟩
theorem InsC.snoc {lo hi hi2 : Nat} {w : World} {us : List Value} {cs : List (List Lt)} {bs : Nat → Nat × Nat} {u : Value} {c : List Lt} (h : InsC lo hi w us cs bs) (h0 : lo ≤ hi) (h2 : hi ≤ hi2) (ho : OwnC hi hi2 w u c) : InsC lo hi2 w (us ++ [u]) (cs ++ [c]) (fun i => if i = us.length then (hi, hi2) else bs i) := by
  refine ⟨by simp [h.1], fun j v hj => ?_⟩
  by_cases hl : j < us.length
  · rw [List.getElem?_append_left hl] at hj
    obtain ⟨a, b, c', d, e⟩ := h.2 j v hj
    have e1 : (cs ++ [c]).getD j [] = cs.getD j [] := by
      have := h.1
      simp only [List.getD_eq_getElem?_getD]
      rw [List.getElem?_append_left (by omega)]
    dsimp only
    rw [if_neg (by omega), e1]
    refine ⟨a, b, by omega, d, fun i hi' => ?_⟩
    rw [if_neg (by omega)]
    exact e i hi'
  · have hjl : j = us.length := by
      have := (List.getElem?_eq_some_iff.1 hj).1
      simp at this; omega
    subst hjl
    rw [List.getElem?_append_right (Nat.le_refl _), Nat.sub_self] at hj
    simp only [List.getElem?_cons_zero, Option.some.injEq] at hj
    subst hj
    have e1 : (cs ++ [c]).getD us.length [] = c := by
      rw [h.1]
      simp [List.getD]
    dsimp only
    rw [if_pos rfl, e1]
    refine ⟨h0, h2, Nat.le_refl _, ho, fun i hi' => ?_⟩
    rw [if_neg (by omega)]
    have hq : us[i]? = some us[i] := List.getElem?_eq_getElem hi'
    exact (h.2 i _ hq).2.2.1
/-- Clauses that may be written. -/
def OwnCs (lo hi : Nat) (w : World) (v : Value) (cs : List (List Lt)) : Prop :=
  ∃ us bs, w.ownsRow lo 30 1 v cs.length us ∧ InsC lo hi w us cs bs ∧ ∀ g, v.ownBlock = some g → g < hi ∧ ∀ j u, us[j]? = some u → g < (bs j).1 ∨ (bs j).2 ≤ g
theorem OwnCs.same {lo hi w w' v cs} (h : OwnCs lo hi w v cs) (hs : ∀ b, lo ≤ b → b < hi → b < w.heap.size → w'.heap[b]? = w.heap[b]?) : OwnCs lo hi w' v cs := by
  obtain ⟨us, bs, h1, h2, h3⟩ := h
  refine ⟨us, bs, ?_, h2.same hs, h3⟩
  have h1' := h1
  obtain ⟨q1, q0 | ⟨g, cap, cur, e1, e2, hh, r⟩⟩ := h1
  · exact ⟨q1, .inl q0⟩
  · have hb : v.ownBlock = some g := by rw [e1]; rfl
    exact ⟨q1, .inr ⟨g, cap, cur, e1, e2, by rw [hs g e2 (h3 g hb).1 (own_lt h1' hb).2]; exact hh, r⟩⟩
theorem OwnCs.below {lo hi w w' v cs} (h : OwnCs lo hi w v cs) (hb : Bel w w') : OwnCs lo hi w' v cs := h.same fun b _ _ h3 => hb.block b h3
theorem OwnCs.alloc {lo hi w v cs} (h : OwnCs lo hi w v cs) (o : Obj) : OwnCs lo hi (w.alloc o) v cs := h.below (Bel.alloc0 w o)
theorem OwnCs.k {lo hi w v cs} (h : OwnCs lo hi w v cs) : K (fun w => OwnCs lo hi w v cs) w := fun _ hb => h.below hb
theorem OwnCs.chg {lo hi lo' hi' w w' v cs} (h : OwnCs lo hi w v cs) (k : Chg lo' hi' w w') (hd : hi ≤ lo' ∨ hi' ≤ lo) : OwnCs lo hi w' v cs :=
  h.same fun b h1 h2 h3 => k.block b h3 (by omega)
theorem OwnCs.sl {lo hi w v cs} (h : OwnCs lo hi w v cs) : SlCs lo hi w v cs := by
  obtain ⟨us, bs, h1, h2, h3⟩ := h
  have h1' := h1
  obtain ⟨q1, q0 | ⟨g, cap, cur, e1, e2, hh, r1, r2, r3⟩⟩ := h1
  · obtain ⟨rfl, q3⟩ := q0
    exact ⟨none, 0, by rw [q3], by omega, ⟨Nat.zero_le _, fun _ => rfl⟩, fun hp => by omega⟩
  · subst e1
    refine ⟨some ⟨g, 0, none⟩, cap, rfl, r1, ⟨r2, fun h => by simp at h⟩, fun hp => ⟨g, 0, rfl, e2, (h3 g rfl).1, fun j hj => ?_⟩⟩
    have hju : j < us.length := by rw [h2.1]; exact hj
    refine ⟨us[j], ?_, ?_⟩
    · rw [Nat.zero_add, h1'.cellAt j (by omega), List.getElem?_eq_getElem hju]
    · obtain ⟨a, b, c, d, e⟩ := h2.2 j _ (List.getElem?_eq_getElem hju)
      exact d.sl.mono a c
theorem SlCs.alloc {lo hi w v cs} (h : SlCs lo hi w v cs) (o : Obj) : SlCs lo hi (w.alloc o) v cs := h.below (Bel.alloc0 w o)
theorem SlCs.k {lo hi w v cs} (h : SlCs lo hi w v cs) : K (fun w => SlCs lo hi w v cs) w := fun _ hb => h.below hb
def RetCs (w : World) (cs : List (List Lt)) (e : Ending) (w' : World) : Prop := ∃ ad n k, e = .returned (.slice ad n k) ∧ OwnCs w.heap.size w'.heap.size w' (.slice ad n k) cs ∧ Bel w w'

theorem litsInfo : (Try.prog.info? 30).map (fun i => (i.zero, i.size, i.bytes)) = some (some (.slice none 0 0), 1, 24) := by kernel_rfl
end Go.Proofs.Ytlcjcihohclmhaa
end
section
/- The laws' helpers over slices of literals: marks. -/
namespace Go.Proofs.Ytlcjcihohclmhaa
open Go.RowKit

def qlo (bs : Nat → Nat) (i : Nat) (xs : List Int) : Nat := if 0 < xs.length then bs i else 0
def qhi (bs : Nat → Nat) (i : Nat) (xs : List Int) : Nat := if 0 < xs.length then bs i + 1 else 0
theorem Ins.feed {lo hi b w us xss bs} (h : Ins lo hi b w us xss bs) (i : Nat) (u : Value) (hu : us[i]? = some u) : OwnI (qlo bs i (xss.getD i [])) (qhi bs i (xss.getD i [])) w u (xss.getD i []) := by
  have ho := h.own i u hu
  unfold qlo qhi
  split
  · exact ho
  · rename_i h0; rw [len0 h0] at ho ⊢; exact ho.empty
theorem Ins.fed {lo hi b w w' us xss bs} (h : Ins lo hi b w us xss bs) (hb : b < w.heap.size) (i : Nat) (hi' : i < xss.length) (u : Value) (hu : us[i]? = some u) (ys : List Int) (hl : ys.length = (xss.getD i []).length)
    (hch : Chg (qlo bs i (xss.getD i [])) (qhi bs i (xss.getD i [])) w w') (ho : OwnI (qlo bs i (xss.getD i [])) (qhi bs i (xss.getD i [])) w' u ys) :
    Ins lo hi b w' us (xss.set i ys) bs ∧ Chg lo hi w w' ∧ w'.heap[b]? = w.heap[b]? := by
  by_cases hp : 0 < (xss.getD i []).length
  · obtain ⟨a1, a2, a3⟩ := h.rng i hi' hp
    unfold qlo qhi at hch ho
    rw [if_pos hp, if_pos hp] at hch ho
    exact ⟨h.stored i hi' u hu ys hl (fun _ => hch) (fun h0 => absurd (by omega) h0) ho, hch.mono a1 (by omega), hch.block b hb (by omega)⟩
  · unfold qlo qhi at hch ho
    rw [if_neg hp, if_neg hp] at hch ho
    have hy : ys = [] := List.length_eq_zero_iff.1 (by omega)
    subst hy
    exact ⟨h.stored i hi' u hu [] hl (fun h0 => absurd h0 (by simp)) (fun _ => hch) ho.empty, ⟨hch.os, hch.tape, hch.output, hch.size, fun x hx _ => hch.block x hx (by omega)⟩, hch.block b hb (by omega)⟩
theorem CRow.left {lo hi b off : Nat} {w w' : World} {zs : List LV} {c : List Lt} {bs : Nat → Nat} (h : CRow lo hi b off w zs c bs) (hb : b < w.heap.size) (j : Nat) (z : LV) (hz : zs[j]? = some z) (ys : List Int) (hl : ys.length = (c.getD j lt0).2.1.length)
    (hch : Chg (qlo bs (2*j) (c.getD j lt0).2.1) (qhi bs (2*j) (c.getD j lt0).2.1) w w') (ho : OwnI (qlo bs (2*j) (c.getD j lt0).2.1) (qhi bs (2*j) (c.getD j lt0).2.1) w' z.2.1 ys) :
    CRow lo hi b off w' zs (c.set j ((c.getD j lt0).1, ys, (c.getD j lt0).2.2)) bs ∧ Chg lo hi w w' := by
  have hj : j < zs.length := (List.getElem?_eq_some_iff.1 hz).1
  have hjc : j < c.length := by rw [← h.len]; exact hj
  have hfl := flatC_len c
  obtain ⟨g1, g2⟩ := flatC_get c j
  rw [← g1] at hch ho hl
  obtain ⟨k1, k2, k3⟩ := h.ins.fed hb (2*j) (by omega) z.2.1 (rowsC_get zs j z hz).1 ys hl hch ho
  refine ⟨h.terms k3 (by simp) (fun i => ?_) ?_, k2⟩
  · by_cases e : j = i
    · subst e; simp [List.getD, hjc]
    · simp [List.getD, e]
  · have : flatC (c.set j ((c.getD j lt0).1, ys, (c.getD j lt0).2.2)) = (flatC c).set (2*j) ys := by
      rw [flatC_set c j _ hjc]
      show ((flatC c).set (2 * j) ys).set (2 * j + 1) (c.getD j lt0).2.2 = _
      rw [← g2]
      apply List.ext_getElem?
      intro i
      simp only [List.getElem?_set]
      by_cases e : 2 * j + 1 = i
      · subst e; simp [List.getD, show 2 * j + 1 < (flatC c).length by omega]
      · rw [if_neg e]
    rw [this]; exact k1
theorem CRow.right {lo hi b off : Nat} {w w' : World} {zs : List LV} {c : List Lt} {bs : Nat → Nat} (h : CRow lo hi b off w zs c bs) (hb : b < w.heap.size) (j : Nat) (z : LV) (hz : zs[j]? = some z) (ys : List Int) (hl : ys.length = (c.getD j lt0).2.2.length)
    (hch : Chg (qlo bs (2*j+1) (c.getD j lt0).2.2) (qhi bs (2*j+1) (c.getD j lt0).2.2) w w') (ho : OwnI (qlo bs (2*j+1) (c.getD j lt0).2.2) (qhi bs (2*j+1) (c.getD j lt0).2.2) w' z.2.2 ys) :
    CRow lo hi b off w' zs (c.set j ((c.getD j lt0).1, (c.getD j lt0).2.1, ys)) bs ∧ Chg lo hi w w' := by
  have hj : j < zs.length := (List.getElem?_eq_some_iff.1 hz).1
  have hjc : j < c.length := by rw [← h.len]; exact hj
  have hfl := flatC_len c
  obtain ⟨g1, g2⟩ := flatC_get c j
  rw [← g2] at hch ho hl
  obtain ⟨k1, k2, k3⟩ := h.ins.fed hb (2*j+1) (by omega) z.2.2 (rowsC_get zs j z hz).2 ys hl hch ho
  refine ⟨h.terms k3 (by simp) (fun i => ?_) ?_, k2⟩
  · by_cases e : j = i
    · subst e; simp [List.getD, hjc]
    · simp [List.getD, e]
  · have : flatC (c.set j ((c.getD j lt0).1, (c.getD j lt0).2.1, ys)) = (flatC c).set (2*j+1) ys := by
      rw [flatC_set c j _ hjc]
      show ((flatC c).set (2 * j) (c.getD j lt0).2.1).set (2 * j + 1) ys = _
      rw [← g1]
      apply List.ext_getElem?
      intro i
      simp only [List.getElem?_set, List.length_set]
      by_cases e : 2 * j + 1 = i
      · subst e; simp
      · rw [if_neg e, if_neg e]
        by_cases e2 : 2 * j = i
        · subst e2; simp [List.getD, show 2 * j < (flatC c).length by omega]
        · rw [if_neg e2]
    rw [this]; exact k1

theorem set_twice {α : Type} (l : List α) (j : Nat) (a b : α) : (l.set j a).set j b = l.set j b := by simp

def RetMC (lo hi : Nat) (w : World) (v : Value) (c : List Lt) (k : Nat) (e : Ending) (w' : World) : Prop := e = .returned (.int .i64 ((k + sumC c : Nat) : Int)) ∧ Chg lo hi w w' ∧ OwnC lo hi w' v (marksC k c)
theorem OwnC.crow {lo hi : Nat} {w : World} {ad : Option Addr} {n k : Nat} {c : List Lt} (h : OwnC lo hi w (.slice ad n k) c) (hp : 0 < c.length) : ∃ b off zs bs, ad = some ⟨b, off, none⟩ ∧ n = c.length ∧ c.length ≤ k ∧ k ≤ maxLen ∧ CRow lo hi b off w zs c bs := by
  obtain ⟨ad', cap, e, hc, hm, hr⟩ := h
  simp only [Value.slice.injEq] at e
  obtain ⟨rfl, rfl, rfl⟩ := e
  obtain ⟨b, off, zs, bs, e, a1, a2, hl, a3, hf, hi⟩ := hr hp
  exact ⟨b, off, zs, bs, e, rfl, hc, hm.1, a1, a2, hl, a3, hf, hi⟩
theorem CRow.own {lo hi b off k : Nat} {w : World} {zs : List LV} {c : List Lt} {bs : Nat → Nat} (h : CRow lo hi b off w zs c bs) (hc : c.length ≤ k) (hm : k ≤ maxLen) : OwnC lo hi w (.slice (some ⟨b, off, none⟩) c.length k) c :=
  ⟨_, k, rfl, hc, ⟨hm, fun h => by simp at h⟩, fun _ => ⟨b, off, zs, bs, rfl, h.hlo, h.hhi, h.len, h.cell, h.free, h.ins⟩⟩

end Go.Proofs.Ytlcjcihohclmhaa
end
section
/- The laws' helpers over slices of clauses: marks. -/
namespace Go.Proofs.Ytlcjcihohclmhaa
open Go.RowKit

theorem SlCs.chg {lo hi lo' hi' w w' v cs} (h : SlCs lo hi w v cs) (k : Chg lo' hi' w w') (hd : hi ≤ lo' ∨ hi' ≤ lo) : SlCs lo hi w' v cs := by
  obtain ⟨ad, cap, rfl, hc, hm, hr⟩ := h
  refine ⟨ad, cap, rfl, hc, hm, fun hp => ?_⟩
  obtain ⟨b, off, e, a1, a2, a3⟩ := hr hp
  refine ⟨b, off, e, a1, a2, fun j hj => ?_⟩
  obtain ⟨u, h1, h2⟩ := a3 j hj
  exact ⟨u, k.cell (World.block_lt_of_cell? w ⟨b, off + j, none⟩ h1) (by omega) h1, h2.chg k hd⟩
def RetMCs (lo hi : Nat) (w : World) (cs : List (List Lt)) (k : Nat) (e : Ending) (w' : World) : Prop := e = .returned (.int .i64 ((k + sumCs cs : Nat) : Int)) ∧ Chg lo hi w w' ∧ True
theorem ownsRow_far {w w' : World} {base e s n : Nat} {v : Value} {xs : List Value} (h : w.ownsRow base e s v n xs) {l' h' : Nat} (k : Chg l' h' w w') (hd : ∀ g, v.ownBlock = some g → g < l' ∨ h' ≤ g) : w'.ownsRow base e s v n xs := by
  have h0 := h
  obtain ⟨q1, q0 | ⟨g, cap, cur, e1, e2, hh, r⟩⟩ := h
  · exact ⟨q1, .inl q0⟩
  · have hb : v.ownBlock = some g := by rw [e1]; rfl
    exact ⟨q1, .inr ⟨g, cap, cur, e1, e2, by rw [k.block g (own_lt h0 hb).2 (hd g hb)]; exact hh, r⟩⟩

end Go.Proofs.Ytlcjcihohclmhaa
end
section
/- The draws of worlds and assignments. -/
namespace Go.Proofs.Ytlcjcihohclmhaa
open Go.RowKit

theorem LF_setNew {b n k d : Nat} {w w' : World} (h : Rl.LF b n k d w w') {p : Addr} (hp : w.heap.size ≤ p.block) (hb : b < w.heap.size) (u : Value) : Rl.LF b n k d w (w'.setCell p u) := by
  obtain ⟨k', h1, h2, h3, h4⟩ := h
  exact ⟨k', h1, h2, h3.chg (Chg.set (lo := p.block) (hi := p.block + 1) w' (Nat.le_refl _) (Nat.lt_succ_self _) u) (by omega), h4.setNew hp u⟩
theorem LF_bel {b n k d : Nat} {w w' w2 : World} (h : Rl.LF b n k d w w') (hb : Bel w' w2) : Rl.LF b n k d w w2 := by
  obtain ⟨k', h1, h2, h3, h4⟩ := h
  exact ⟨k', h1, h2, h3.below hb, h4.trans (Chg.of_bel hb)⟩
theorem LF_mono {b n k d d' : Nat} {w w' : World} (h : Rl.LF b n k d w w') (hd : d ≤ d') : Rl.LF b n k d' w w' := by
  obtain ⟨k', h1, h2, h3, h4⟩ := h
  exact ⟨k', h1, by omega, h3, h4⟩
theorem LF_step {b n k d d' k1 k2 : Nat} {w w' w2 : World} (h : Rl.LF b n k d w w') (h0 : k ≤ k1) (h1 : k1 ≤ k + d) (h2 : k1 ≤ k2) (h3 : k2 ≤ k1 + d') (hc : Cur b n k2 w2) (hg : Chg b (b+1) w' w2) : Rl.LF b n k (d + d') w w2 := by
  obtain ⟨k', _, _, _, h7⟩ := h
  exact ⟨k2, by omega, by omega, hc, h7.trans hg⟩
theorem LF_grown {b n k d : Nat} {w w' w2 : World} {r : Option Nat} (h : Rl.LF b n k d w w') (hg : w'.grownBy w2 r) (hr : ∀ q, r = some q → w.heap.size ≤ q) (hb : b < w.heap.size) : Rl.LF b n k d w w2 := by
  obtain ⟨k', h1, h2, h3, h4⟩ := h
  have hz := h4.size
  have hbl : ∀ q, q < w'.heap.size → q ≠ b → (some q = r → False) → w2.heap[q]? = w'.heap[q]? := fun q h5 _ h7 => hg.block q h5 h7
  have hbb : w2.heap[b]? = w'.heap[b]? := hg.block b (by omega) (fun e => by have := hr b e.symm; omega)
  have hB : Bel w (w.drew) := Bel.drew0 w
  refine ⟨k', h1, h2, ?_, ?_⟩
  · obtain ⟨code, seed, c0, c1, c2, c3, c4, c5⟩ := h3
    have e := fun j => World.cell?_of_block (w := w') (w' := w2) (a := ⟨b, j, none⟩) hbb
    have f := fun j => World.frozen?_of_block (w := w') (w' := w2) (a := ⟨b, j, none⟩) hbb
    refine ⟨code, seed, Nat.lt_of_lt_of_le c0 hg.size, ?_, (e 0).trans c2, (e 1).trans c3, (e 2).trans c4, fun j => (f j).trans (c5 j)⟩
    obtain ⟨ad, cap, e1, e2, e3⟩ := c1
    exact ⟨ad, cap, e1, e2, fun hp => by
      obtain ⟨q, off, h5, h6, h7⟩ := e3 hp
      exact ⟨q, off, h5, h6, fun j hj => by
        obtain ⟨x, hx, hcell⟩ := h7 j hj
        exact ⟨x, hx, hg.cell hcell (fun e => by have := hr q e.symm; omega)⟩⟩⟩
  · exact ⟨hg.os.trans h4.os, hg.tape.trans h4.tape, hg.output.trans h4.output, Nat.le_trans h4.size hg.size, fun q hq hd => (hg.block q (by omega) (fun e => by have := hr q e.symm; omega)).trans (h4.block q hq hd)⟩

theorem RowO.chg {base b : Nat} {w w' : World} {v : Value} {xss : List (List Int)} (h : RowO base w v xss) (hb : Chg b (b+1) w w') (hbb : b < base) : RowO base w' v xss := by
  obtain ⟨us, bs, ho, hi⟩ := h
  have hlt := ho.lt
  refine ⟨us, bs, ownsRow_far ho hb (fun g e => .inr (by have := (hlt g e).1; omega)), ((hi.same (w' := w') fun x h1 _ h3 => hb.block x h3 (by omega)).mono (Nat.le_refl _) hb.size).blk fun j hj hp => ?_⟩
  have hr := hi.rng j hj hp
  unfold rowBlk at hr ⊢
  cases hv : v.ownBlock with
  | none => have := hb.size; simp only [Option.getD_none]; omega
  | some g => rw [hv] at hr; simp only [Option.getD_some] at hr ⊢; exact hr.2.2
theorem RowO.step2 {base b : Nat} {w0 w1 w2 : World} {v u : Value} {xss : List (List Int)} {t : List Int} (h : RowO base w0 v xss) (h1 : Chg b (b+1) w0 w1) (hbs : b < base) (h2 : Bel w1 w2) (ho : OwnI w0.heap.size w1.heap.size w1 u t) (hbase : base ≤ w0.heap.size) :
    ∃ us : List Value, w2.ownsRow base 24 1 v us.length us ∧ us.length = xss.length ∧ ∀ w3 v', w3.ownsRow base 24 1 v' (us.length + 1) (us ++ [u]) → w2.grownBy w3 v.ownBlock → (v'.ownBlock = v.ownBlock ∨ v'.ownBlock = some w2.heap.size) → RowO base w3 v' (xss ++ [t]) := by
  obtain ⟨us, bs, hw, hi⟩ := h
  have hlt := hw.lt
  have hz1 := h1.size
  have hz2 := h2.size
  refine ⟨us, ownsRow_bel (ownsRow_far hw h1 (fun g e => .inr (by have := (hlt g e).1; omega))) h2, hi.len, fun w3 v' hown hg hat => ?_⟩
  have hz3 := hg.size
  obtain ⟨b', hb'⟩ : ∃ b', v'.ownBlock = some b' := by
    rcases hown.2 with ⟨_, hn⟩ | ⟨g, cap, cur, rfl, _⟩
    · omega
    · exact ⟨g, by simp [Value.ownBlock]⟩
  have hrb : rowBlk w3 v' = b' := by unfold rowBlk; rw [hb']; rfl
  have hi2 := (hi.same (w' := w1) fun x h1' _ h3 => h1.block x h3 (by omega)).below h2
  have hi3 : Ins base w0.heap.size (rowBlk w0 v) w3 us xss bs := by
    refine hi2.but fun x hx _ hxl hx2 => hg.block x hx2 fun e => hx ?_
    unfold rowBlk; rw [← e]; rfl
  have hne : ∀ j, j < xss.length → 0 < (xss.getD j []).length → bs j ≠ b' := by
    intro j hj hp
    have hr := hi.rng j hj hp
    rcases hat with e | e
    · unfold rowBlk at hr; rw [← e, hb'] at hr; exact hr.2.2
    · rw [hb'] at e; simp at e; omega
  have hbb : b' < w0.heap.size ∨ w2.heap.size ≤ b' := by
    rcases hat with e | e
    · rw [hb'] at e; exact .inl (hlt b' e.symm).2
    · rw [hb'] at e; simp at e; exact .inr (by omega)
  have ho3 : OwnI w0.heap.size w1.heap.size w3 u t := (ho.below h2).same fun x hx1 hx2 hx3 => hg.block x hx3 fun e => by have := (hlt x e.symm).2; omega
  obtain ⟨bs', hf⟩ := (hi3.blk hne).snoc ho3 (Nat.le_refl _) hbase (by omega) (hi2 := w3.heap.size) (by omega) (by omega)
  refine ⟨us ++ [u], bs', by simpa using hown, ?_⟩
  rw [hrb]
  exact hf

theorem own_formq {w : World} {base e s n : Nat} {v : Value} {xs : List Value} (h : w.ownsRow base e s v n xs) : ∃ ad c, v = .slice ad n c := by
  rcases h.2 with ⟨rfl, h0⟩ | ⟨g, cap, cur, rfl, hg, _⟩
  · exact ⟨none, 0, by rw [h0]⟩
  · exact ⟨_, _, rfl⟩
def RetDE (b n k d : Nat) (w : World) (e : Ending) (w' : World) : Prop :=
  ∃ (ad : Option Addr) (c : Nat) (env : List Int), e = .returned (.slice ad env.length c) ∧ SlI w.heap.size w'.heap.size w' (.slice ad env.length c) env ∧ env.length = 12 ∧ Rl.LF b n k d w w'
/-- What stays while the tables are drawn: the size, the signature, the result's cells, the cursor. -/
structure WD (b n k d : Nat) (w : World) (g : Nat) (Z : Int) (sg : Value) (wr : World) : Prop where
  size : wr.cell? ⟨g, 0, none⟩ = some (.int .i64 Z)
  free : ∀ j, wr.frozen? ⟨g, j, none⟩ = false
  sign : wr.cell? ⟨w.heap.size, 0, none⟩ = some sg
  r0 : wr.cell? ⟨w.heap.size + 1, 0, none⟩ = some (.int .i64 0)
  r1 : wr.cell? ⟨w.heap.size + 1, 1, none⟩ = some (.slice none 0 0)
  rf : ∀ j, wr.frozen? ⟨w.heap.size + 1, j, none⟩ = false
  cur : Rl.LF b n k d w wr
  big : g + 1 ≤ wr.heap.size
  low : w.heap.size + 2 ≤ g
  bl : b < w.heap.size
theorem WD.same {b n k d d' : Nat} {w wr w' : World} {g : Nat} {Z : Int} {sg : Value} (h : WD b n k d w g Z sg wr) (hg : ∀ q, w.heap.size ≤ q → q ≤ g → w'.heap[q]? = wr.heap[q]?) (hc : Rl.LF b n k d' w w') (hz : wr.heap.size ≤ w'.heap.size) : WD b n k d' w g Z sg w' := by
  have hl := h.low
  have c := fun (q j : Nat) (h0 : w.heap.size ≤ q) (hbg : q ≤ g) => World.cell?_of_block (w := wr) (w' := w') (a := ⟨q, j, none⟩) (hg q h0 hbg)
  have f := fun (q j : Nat) (h0 : w.heap.size ≤ q) (hbg : q ≤ g) => World.frozen?_of_block (w := wr) (w' := w') (a := ⟨q, j, none⟩) (hg q h0 hbg)
  exact ⟨(c g 0 (by omega) (Nat.le_refl _)).trans h.size, fun j => (f g j (by omega) (Nat.le_refl _)).trans (h.free j), (c _ 0 (by omega) (by omega)).trans h.sign, (c _ 0 (by omega) (by omega)).trans h.r0, (c _ 1 (by omega) (by omega)).trans h.r1, fun j => (f _ j (by omega) (by omega)).trans (h.rf j), hc, Nat.le_trans h.big hz, hl, h.bl⟩
theorem WD.bel {b n k d : Nat} {w wr w' : World} {g : Nat} {Z : Int} {sg : Value} (h : WD b n k d w g Z sg wr) (hb : Bel wr w') : WD b n k d w g Z sg w' :=
  h.same (fun q _ hbg => hb.block q (by have := h.big; omega)) (LF_bel h.cur hb) hb.size
theorem WD.chg {b n k d d' : Nat} {w wr w' : World} {g : Nat} {Z : Int} {sg : Value} (h : WD b n k d w g Z sg wr) {k1 k2 : Nat} (h0 : k ≤ k1) (h1 : k1 ≤ k + d) (h2 : k1 ≤ k2) (h3 : k2 ≤ k1 + d') (hc : Cur b n k2 w') (hg : Chg b (b+1) wr w') : WD b n k (d + d') w g Z sg w' :=
  h.same (fun q h5 hbg => hg.block q (by have := h.big; omega) (by have := h.bl; omega)) (LF_step h.cur h0 h1 h2 h3 hc hg) hg.size
theorem WD.grown {b n k d : Nat} {w wr w' : World} {g : Nat} {Z : Int} {sg : Value} {r : Option Nat} (h : WD b n k d w g Z sg wr) (hg : wr.grownBy w' r) (hr : ∀ q, r = some q → g < q) : WD b n k d w g Z sg w' :=
  h.same (fun q _ hbg => hg.block q (by have := h.big; omega) (fun e => by have := hr q e.symm; omega)) (LF_grown h.cur hg (fun q e => by have := hr q e; have := h.low; omega) h.bl) hg.size
theorem WD.set1 {b n k d : Nat} {w wr : World} {g : Nat} {Z : Int} {sg : Value} (h : WD b n k d w g Z sg wr) (u : Value) : WD b n k d w g Z sg (wr.setCell ⟨g, 1, none⟩ u) := by
  have hl := h.low
  refine ⟨?_, fun j => by rw [World.frozen?_setCell]; exact h.free j, ?_, ?_, ?_, fun j => by rw [World.frozen?_setCell]; exact h.rf j, LF_setNew h.cur (p := ⟨g, 1, none⟩) (by show w.heap.size ≤ g; omega) h.bl u, by rw [World.size_setCell]; exact h.big, hl, h.bl⟩
  · rw [World.cell?_setCell_other (h := by intro e; simp at e)]; exact h.size
  · rw [World.cell?_setCell_other (h := by intro e; simp at e)]; exact h.sign
  · rw [World.cell?_setCell_other (h := by intro e; simp at e)]; exact h.r0
  · rw [World.cell?_setCell_other (h := by intro e; simp at e <;> omega)]; exact h.r1

theorem WD.set0 {b n k d : Nat} {w wr : World} {g : Nat} {Z : Int} {sg : Value} (h : WD b n k d w g Z sg wr) (Z' : Int) : WD b n k d w g Z' sg (wr.setCell ⟨g, 0, none⟩ (.int .i64 Z')) := by
  have hl := h.low
  refine ⟨World.cell?_setCell_same wr _ _ h.size, fun j => by rw [World.frozen?_setCell]; exact h.free j, ?_, ?_, ?_, fun j => by rw [World.frozen?_setCell]; exact h.rf j, LF_setNew h.cur (p := ⟨g, 0, none⟩) (by show w.heap.size ≤ g; omega) h.bl _, by rw [World.size_setCell]; exact h.big, hl, h.bl⟩
  · rw [World.cell?_setCell_other (h := by intro e; simp at e <;> omega)]; exact h.sign
  · rw [World.cell?_setCell_other (h := by intro e; simp at e <;> omega)]; exact h.r0
  · rw [World.cell?_setCell_other (h := by intro e; simp at e)]; exact h.r1
theorem world_end {b n k d : Nat} {w wq : World} {g : Nat} {Z : Int} {sg : Value} {hi : Nat} {sv : Value} {tb : List (List Int)} (h : WD b n k d w g Z sg wq) (hS : SlS (g+1) hi wq sv tb) (u v : Value) :
    ((wq.setCell ⟨w.heap.size + 1, 0, none⟩ u).setCell ⟨w.heap.size + 1, 1, none⟩ v).cell? ⟨w.heap.size + 1, 0, none⟩ = some u ∧ ((wq.setCell ⟨w.heap.size + 1, 0, none⟩ u).setCell ⟨w.heap.size + 1, 1, none⟩ v).cell? ⟨w.heap.size + 1, 1, none⟩ = some v ∧
    Rl.LF b n k d w ((wq.setCell ⟨w.heap.size + 1, 0, none⟩ u).setCell ⟨w.heap.size + 1, 1, none⟩ v) ∧ SlS (g+1) hi ((wq.setCell ⟨w.heap.size + 1, 0, none⟩ u).setCell ⟨w.heap.size + 1, 1, none⟩ v) sv tb := by
  have hl := h.low
  refine ⟨?_, ?_, LF_setNew (LF_setNew h.cur (p := ⟨w.heap.size + 1, 0, none⟩) (by show w.heap.size ≤ _; simp only; omega) h.bl u) (p := ⟨w.heap.size + 1, 1, none⟩) (by show w.heap.size ≤ _; simp only; omega) h.bl v, ?_⟩
  · rw [World.cell?_setCell_other (h := by intro e; simp at e)]; exact World.cell?_setCell_same wq _ _ h.r0
  · exact World.cell?_setCell_same _ _ _ (by rw [World.cell?_setCell_other (h := by intro e; simp at e)]; exact h.r1)
  · exact hS.same fun q hq1 _ _ => by rw [Below.heap_setCell _ _ _ q (by show q ≠ w.heap.size + 1; omega), Below.heap_setCell _ _ _ q (by show q ≠ w.heap.size + 1; omega)]

def RetDW (b n k d : Nat) (w : World) (e : Ending) (w' : World) : Prop :=
  ∃ (ad : Option Addr) (c Z : Nat) (tb : List (List Int)), e = .returned (.agg #[.int .i64 (Z : Int), .slice ad tb.length c]) ∧ SlS w.heap.size w'.heap.size w' (.slice ad tb.length c) tb ∧ tb.length ≤ 6 ∧ (∀ j, (tb.getD j []).length ≤ 27) ∧ 1 ≤ Z ∧ Z ≤ 4 ∧ Rl.LF b n k d w w'

set_option maxRecDepth 100000 in
set_option maxHeartbeats 2000000 in
theorem world_c (b n k l m : Nat) (sv : Value) (ar : List Int) (w : World) (hn : n ≤ 1099511627776) (hk : k ≤ 100000000000) (hdr : drawn ar) (hblo : b < l) (hc : Cur b n k w) (hs : SlI l m w sv ar) :
    Calls Try.prog 53 #[.pointer (some ⟨b, 0, none⟩), .agg #[sv]] w (RetDW b n k 1000 w) := by
  obtain ⟨i0, hi0, hz0, hz1, hz2⟩ := info_parts Try.info3
  obtain ⟨i1, hi1, hy0, hy1, hy2⟩ := info_parts Try.info24
  have hsb : ∀ q o, (∃ a c, sv = .slice a ar.length c ∧ a = some ⟨q, o, none⟩ ∧ 0 < ar.length) → b + 1 ≤ q := fun q o ⟨a, c, e1, e2, hp⟩ => by
    obtain ⟨ad, cap, e, _, _, hr⟩ := hs
    obtain ⟨b', off, e3, h1, _, _⟩ := hr hp
    rw [e1] at e
    simp only [Value.slice.injEq] at e
    rw [← e.1, e2] at e3
    simp only [Option.some.injEq, Addr.mk.injEq] at e3
    omega
  obtain ⟨sa, sc, rfl⟩ := hs.form
  have hal := drawn_len hdr
  have hbl := hc.lt
  have hB2 := Bel.alloc2 w (.cells #[.slice sa ar.length sc] 26) (.cells #[.int .i64 0, .slice none 0 0] 29)
  have HP0 := Lib.hid (pick_c b n k 3 3 _ rfl hn (by omega) (by omega) (hc.below hB2))
  have hbs0 : ((w.alloc (.cells #[.slice sa ar.length sc] 26)).alloc (.cells #[.int .i64 0, .slice none 0 0] 29)).cell? ⟨w.heap.size, 0, none⟩ = some (.slice sa ar.length sc) := (Bel.alloc0 _ _).at (by simp) (by simp [go_sem])
  have hq0 : ((w.alloc (.cells #[.slice sa ar.length sc] 26)).alloc (.cells #[.int .i64 0, .slice none 0 0] 29)).cell? ⟨w.heap.size + 1, 0, none⟩ = some (.int .i64 0) := by simp [go_sem]
  have hq1 : ((w.alloc (.cells #[.slice sa ar.length sc] 26)).alloc (.cells #[.int .i64 0, .slice none 0 0] 29)).cell? ⟨w.heap.size + 1, 1, none⟩ = some (.slice none 0 0) := by simp [go_sem]
  have hqf : ∀ j, ((w.alloc (.cells #[.slice sa ar.length sc] 26)).alloc (.cells #[.int .i64 0, .slice none 0 0] 29)).frozen? ⟨w.heap.size + 1, j, none⟩ = false := fun j => by simp [go_sem]
  have hs2 : ((w.alloc (.cells #[.slice sa ar.length sc] 26)).alloc (.cells #[.int .i64 0, .slice none 0 0] 29)).heap.size = w.heap.size + 2 := by simp
  go_enter Try.func53, Try.ntmps53
  go_wp2_with fail
  refine HP0.out.mono ?_; rintro e w1 ⟨x, k1, rfl, hx, hk1, hk2, hc1, hg1⟩
  clear HP0
  generalize hW0 : (w.alloc (.cells #[.slice sa ar.length sc] 26)).alloc (.cells #[.int .i64 0, .slice none 0 0] 29) = W0 at *
  obtain ⟨Z, hZ⟩ : ∃ Z : Nat, (1 + (x : Int)) = (Z : Int) := ⟨1 + x, by omega⟩
  have hZ1 : 1 ≤ Z ∧ Z ≤ 3 := by omega
  have hz1' := hg1.size
  have hzz : w.heap.size + 2 ≤ w1.heap.size := by omega
  have BW := Bel.alloc0 w1 (.cells #[.int .i64 (1 + (x : Int)), .slice none 0 0] 29)
  have hg1' : Chg b (b+1) w w1 := (Chg.of_bel hB2).trans hg1
  have hfw : ∀ j, w1.frozen? ⟨w.heap.size + 1, j, none⟩ = false := fun j => (World.frozen?_of_block (w := W0) (w' := w1) (a := ⟨w.heap.size + 1, j, none⟩) (hg1.block (w.heap.size + 1) (by omega) (by omega))).trans (hqf j)
  have hWD : WD b n k 2 w w1.heap.size (1 + (x : Int)) (.slice sa ar.length sc) (w1.alloc (.cells #[.int .i64 (1 + (x : Int)), .slice none 0 0] 29)) :=
    ⟨by simp [go_sem], fun j => by simp [go_sem], BW.at (b := w.heap.size) (by omega) (hg1.cell (by omega) (by omega) hbs0), BW.at (b := w.heap.size + 1) (by omega) (hg1.cell (by omega) (by omega) hq0), BW.at (b := w.heap.size + 1) (by omega) (hg1.cell (by omega) (by omega) hq1), fun j => (BW.frozen (p := ⟨w.heap.size + 1, j, none⟩) (by show _ < _; simp only; omega)).trans (hfw j), ⟨k1, hk1, hk2, hc1.below BW, hg1'.trans (Chg.of_bel BW)⟩, by simp, hzz, hbl⟩
  have hT0 : (w1.alloc (.cells #[.int .i64 (1 + (x : Int)), .slice none 0 0] 29)).cell? ⟨w1.heap.size, 1, none⟩ = some (.slice none 0 0) := by simp [go_sem]
  have HW := Lib.hid (And.intro hWD hT0)
  rw [hZ] at HW
  have HZ := Lib.hid hZ
  have hsg := hWD.sign
  have hx3 : (x : Int) < 3 := by omega
  clear hWD hT0 hq0 hq1 hqf hg1 hbs0 hz1' BW hZ hfw hg1' hc1 hx
  have hal2 : ar.length ≤ 1048576 := by omega
  go_wp2_with fail
  go_loopw [17] (fun i wr => ∃ (q : Nat) (o : Value) (tb : List (List Int)), q ≤ ar.length ∧ i = .int .i64 q ∧ WD b n k (2 + 60 * q) w w1.heap.size Z (.slice sa ar.length sc) wr ∧ wr.cell? ⟨w1.heap.size, 1, none⟩ = some o ∧ RowO (w1.heap.size + 1) wr o tb ∧ tb.length = q ∧ ∀ j, (tb.getD j []).length ≤ 27) (fun i _ => ar.length - (intOf i).toNat)
  case atStart => exact ⟨0, _, [], Nat.zero_le _, rfl, by rw [HZ.out]; exact HW.out.1, by rw [HZ.out]; exact HW.out.2, RowO.nil _ _, rfl, fun j => by simp⟩
  case round =>
    clear HW
    obtain ⟨q, o, tb, hq, rfl, hWD, hT, hRow, hlen, hall⟩ := hrel
    by_cases hlt : q < ar.length
    · obtain ⟨bA, oA, rfl, hbA, hcA⟩ := hs.at q hlt
      obtain ⟨ha0, ha3⟩ := drawn_get hdr q
      obtain ⟨An, hAn⟩ : ∃ An : Nat, ar.getD q 0 = (An : Int) := ⟨(ar.getD q 0).toNat, by omega⟩
      rw [hAn] at hcA ha0 ha3
      have hA3 : An ≤ 3 := by omega
      have hqI : (q : Int) < ar.length := by omega
      have hsize := hWD.size
      have hbig := hWD.big
      have hlow := hWD.low
      have hp27 := pow27 hZ1.2 hA3
      obtain ⟨k2, f1, f2, f3, f4⟩ := hWD.cur
      have hcA2 : wr.cell? ⟨bA, oA + q, none⟩ = some (.int .i64 (An : Int)) := f4.cell hbA (.inr (hsb bA oA ⟨_, _, rfl, rfl, by omega⟩)) hcA
      have HWD := Lib.hid (And.intro hWD (And.intro hT (And.intro hRow (And.intro hlen hall))))
      have HLEN := Lib.hid hlen
      clear hWD hT hRow hall ha0 ha3 hcA f4 hlen
      generalize hNN : Z ^ An = N at *
      have HLong := Lib.hid (fun w' => l5Long_c Z An w' hZ1.2 hA3)
      rw [hNN] at HLong
      obtain ⟨wt, hwt⟩ : ∃ wt, wt = wr := ⟨_, rfl⟩
      subst hwt
      go_wp2_with fail
      refine (HLong.out _).mono ?_; rintro e w2 ⟨rfl, hb2⟩
      have hsize2 := hb2.at (b := w1.heap.size) (by omega) hsize
      have f32 := f3.below hb2
      obtain ⟨HW1, hT1, hRow1, hall1⟩ : WD b n k (2 + 60 * q) w w1.heap.size Z (.slice (some ⟨bA, oA, none⟩) ar.length sc) w2 ∧ w2.cell? ⟨w1.heap.size, 1, none⟩ = some o ∧ RowO (w1.heap.size + 1) w2 o tb ∧ ∀ j, (tb.getD j []).length ≤ 27 := ⟨HWD.out.1.bel hb2, hb2.at (b := w1.heap.size) (by omega) HWD.out.2.1, HWD.out.2.2.1.bel hb2, HWD.out.2.2.2.2⟩
      have HWE := Lib.hid (And.intro HW1 (And.intro hT1 (And.intro hRow1 hall1)))
      have hbig2 := HW1.big
      clear HWD HW1 hT1 hRow1 hall1 hsize f3 HLong hb2 hbig
      go_wp2_with fail
      go_loopw [8, 9] (fun o3 cnt wr => ∃ (j : Nat) (env : List Int), j ≤ N ∧ cnt = .int .i64 j ∧ wr.ownsRow w2.heap.size 3 1 o3 env.length (env.map (Value.int .i64)) ∧ env.length = N - j ∧ Rl.LF b n k2 (2 * (N - j)) w2 wr) (fun _ cnt _ => (intOf cnt).toNat)
      case atStart => exact ⟨N, [], Nat.le_refl _, rfl, World.ownsRow_nil _ _ _ _, by simp, ⟨k2, Nat.le_refl _, by omega, f32, Chg.refl _ _ _⟩⟩
      case round =>
        obtain ⟨j, env, hj, rfl, hown, hel, hlf⟩ := hrel
        by_cases hj0 : 0 < j
        · have hd : decide ((0 : Int) < j) = true := decide_eq_true (by omega)
          obtain ⟨k3, g1, g2, g3, g4⟩ := hlf
          have hsz3 := g4.cell (b := w1.heap.size) (by omega) (by omega) hsize2
          have HP := Lib.hid (pick_c b n k3 Z Z wr rfl hn (by omega) (by omega) g3)
          have hgz := g4.size
          go_wp2_with fail
          refine HP.out.mono ?_; rintro e w3 ⟨y, k4, rfl, hy, h1, h2, h3, h4⟩
          have hlf3 := LF_step (d' := 2) (⟨k3, g1, g2, g3, g4⟩ : Rl.LF b n k2 (2 * (N - j)) w2 wr) g1 g2 h1 h2 h3 h4
          have hown3 := ownsRow_far hown h4 (fun q e => .inr (by have := own_base hown q e; omega))
          have hob := own_base hown3
          have hz3 := h4.size
          clear hown HP g3 g4 h3 h4 hy
          go_wp2_with (at_builtin; refine wpList_append_own _ rfl _ _ 24 rfl w2.heap.size 3 i0 (.int .i64 0) 1 8 Try.underlying24 hi0 hz0 hz1 hz2 rfl (by decide) _ _ _ rfl (hown3.alloc _) ⟨w3.heap.size, 0, none⟩ 1 1 [.int .i64 y] rfl rfl (news_one _ _ _) (one_int _) (by unfold maxLen; omega) (by omega) (by simp; omega) ?_; intro v' w4 hown' hgrow _)
          have hown4 : w4.ownsRow w2.heap.size 3 1 v' (env ++ [(y : Int)]).length ((env ++ [(y : Int)]).map (Value.int .i64)) := by simpa using hown'
          have hlf4 := LF_grown (LF_bel hlf3 (Bel.alloc0 w3 (.cells #[.int .i64 y] 3))) hgrow (fun q e => by have := hob q e; omega) (by omega)
          go_roundw
          case rel => exact ⟨j - 1, env ++ [(y : Int)], by omega, by simp; omega, hown4, by simp; omega, LF_mono hlf4 (by omega)⟩
          case measure => simp [intOf]; omega
        · obtain rfl : j = 0 := by omega
          have hd : decide ((0 : Int) < 0) = false := by decide
          rw [Nat.sub_zero] at hel hlf
          have hoi := OwnI.of_row hown
          obtain ⟨ao, no, co, rfl⟩ := own_form hown
          obtain ⟨k3, g1, g2, g3, g4⟩ := hlf
          obtain ⟨hWD, hT, hRow, hall⟩ := HWE.out
          have hT2 := g4.cell (b := w1.heap.size) (by omega) (by omega) hT
          have hWD2 : WD b n k (2 + 60 * q + 54) w w1.heap.size Z (.slice (some ⟨bA, oA, none⟩) ar.length sc) wr := hWD.chg f1 f2 g1 (by omega) g3 g4
          obtain ⟨ot, oc, rfl⟩ := hRow.form
          have hAl := Bel.alloc0 wr (.cells #[.slice ao no co] 24)
          obtain ⟨us, hown2, hul, hnext⟩ := hRow.step2 g4 (by omega) hAl hoi hbig2
          have hWD3 := hWD2.bel hAl
          have HN := Lib.hid hnext
          have HX := Lib.hid (And.intro hWD3 hall)
          have hfr := hWD2.free 1
          have hul2 : us.length ≤ 6 := by have := HLEN.out; omega
          have hob := own_base hown2
          have hz5 : w1.heap.size + 1 ≤ (wr.alloc (.cells #[.slice ao no co] 24)).heap.size := hWD3.big
          clear hnext hown hoi hWD hRow hall hWD2 hWD3 HWE g3 g4 hT
          go_wp2_with (at_builtin; refine wpList_append_own_at _ rfl _ _ 27 rfl (w1.heap.size + 1) 24 i1 (.slice none 0 0) 1 24 Try.underlying27 hi1 hy0 hy1 hy2 rfl (by decide) _ _ _ rfl hown2 _ _ _ [.slice ao no co] rfl rfl (news_oneV _ _ _) (one_slice _ _ _) (by unfold maxLen; omega) (by omega) hz5 ?_; intro v' w4 hown' hgrow _ hat; have hRow4 := HN.out w4 v' hown' hgrow hat; obtain ⟨ov, kv, rfl⟩ := hRow4.form; have hWD4 := HX.out.1.grown hgrow (fun q hq => by have := hob q hq; omega); have hT4 : w4.cell? ⟨w1.heap.size, 1, none⟩ = some (.slice ot tb.length oc) := hgrow.cell (hAl.at (World.block_lt_of_cell? _ ⟨_, _, none⟩ hT2) hT2) (fun e => by have := hob _ e.symm; simp at this; omega); have hf4 := hWD4.free 1)
          have hl5 : (tb ++ [env]).length = tb.length + 1 := by simp
          rw [hl5] at hRow4
          go_roundw
          case rel =>
            refine ⟨q + 1, .slice ov (tb.length + 1) kv, tb ++ [env], by omega, by go_num, ?_, World.cell?_setCell_same w4 ⟨w1.heap.size, 1, none⟩ _ hT4, hRow4.low (by show w1.heap.size < w1.heap.size + 1; omega) _, by have := HLEN.out; omega, fun j => ?_⟩
            · have h9 := hWD4.set1 (.slice ov (tb.length + 1) kv)
              exact h9.same (fun _ _ _ => rfl) (LF_mono h9.cur (by omega)) (Nat.le_refl _)
            · by_cases hjk : j < tb.length
              · have e : (tb ++ [env]).getD j [] = tb.getD j [] := by simp only [List.getD_eq_getElem?_getD]; rw [List.getElem?_append_left (by omega)]
                rw [e]; exact HX.out.2 j
              · by_cases hje : j = tb.length
                · subst hje
                  have e : (tb ++ [env]).getD tb.length [] = env := by simp
                  rw [e, hel]; exact hp27
                · have e : (tb ++ [env]).getD j [] = [] := by rw [List.getD_eq_getElem?_getD, List.getElem?_eq_none (by simp; omega)]; rfl
                  rw [e]; exact Nat.zero_le _
          case measure => simp [intOf]; omega
    · obtain rfl : q = ar.length := by omega
      have hd : decide ((ar.length : Int) < ar.length) = false := by simp
      have hOS := hRow.own.sl
      obtain ⟨ot, oc, rfl⟩ := hRow.form
      obtain ⟨k2, f1, f2, f3, f4⟩ := hWD.cur
      have HP := Lib.hid (pick_c b n k2 40 40 wr rfl hn (by omega) (by omega) f3)
      have hbig := hWD.big
      have hlow := hWD.low
      have HLEN := Lib.hid hlen
      clear hRow f3 f4 hB2 hlen
      go_wp2_with fail
      refine HP.out.mono ?_; rintro e w3 ⟨y, k4, rfl, hy, h1, h2, h3, h4⟩
      have hWD3 := hWD.chg (d' := 2) f1 f2 h1 h2 h3 h4
      have hT3 := h4.cell (b := w1.heap.size) (by omega) (by omega) hT
      have hOS3 := (hOS.chg h4 (by omega)).mono (Nat.le_refl _) h4.size
      have hy3 := hWD3.size
      have hr0 := hWD3.r0
      have hr1 := hWD3.r1
      have hg0 := hWD3.free 0
      have hg1 := hWD3.free 1
      have hrf0 := hWD3.rf 0
      have hrf1 := hWD3.rf 1
      have HX := Lib.hid (And.intro hWD3 (And.intro hOS3 hall))
      have hzL : w1.heap.size + 1 ≤ w3.heap.size := hWD3.big
      have hw5 := IntWalk.i64_in ((Z : Int) + 1) (by omega)
      clear hWD hWD3 hOS hOS3 hT h3 h4 HP hall
      by_cases hy0 : y = 0
      · subst hy0
        have hd0 : (((0 : Nat) : Int) == 0) = true := rfl
        obtain ⟨c0, c1, hLF, hSS⟩ := world_end (HX.out.1.set0 ((Z : Int) + 1)) (HX.out.2.1.same fun q hq1 _ _ => Below.heap_setCell _ ⟨w1.heap.size, 0, none⟩ _ q (by show q ≠ w1.heap.size; omega)) (.int .i64 ((Z : Int) + 1)) (.slice ot tb.length oc)
        go_wp2_with fail
        refine bodyPost_ret (v := .agg #[.int .i64 ((Z : Int) + 1), .slice ot tb.length oc]) (by simp [results, Try.results53, go_sem, c0, c1]) rfl ⟨ot, oc, Z + 1, tb, rfl, hSS.mono (by omega) (by simp), by have := HLEN.out; omega, HX.out.2.2, by omega, by omega, LF_mono hLF (by omega)⟩
      · by_cases hy1 : y = 1
        · subst hy1
          have hd0 : (((1 : Nat) : Int) == 0) = false := rfl
          have hd1 : (((1 : Nat) : Int) == 1) = true := rfl
          obtain ⟨c0, c1, hLF, hSS⟩ := world_end (HX.out.1.set1 (.slice none 0 0)) (SlS.nil (w1.heap.size + 1) w3.heap.size _) (.int .i64 (Z : Int)) (.slice none 0 0)
          go_wp2_with fail
          refine bodyPost_ret (v := .agg #[.int .i64 (Z : Int), .slice none 0 0]) (by simp [results, Try.results53, go_sem, c0, c1]) rfl ⟨none, 0, Z, [], rfl, hSS.mono (by omega) (by simp), by simp, fun j => by simp, by omega, by omega, LF_mono hLF (by omega)⟩
        · have hd0 : ((y : Int) == 0) = false := beq_eq_false_iff_ne.2 (by omega)
          have hd1 : ((y : Int) == 1) = false := beq_eq_false_iff_ne.2 (by omega)
          obtain ⟨c0, c1, hLF, hSS⟩ := world_end HX.out.1 HX.out.2.1 (.int .i64 (Z : Int)) (.slice ot tb.length oc)
          go_wp2_with fail
          refine bodyPost_ret (v := .agg #[.int .i64 (Z : Int), .slice ot tb.length oc]) (by simp [results, Try.results53, go_sem, c0, c1]) rfl ⟨ot, oc, Z, tb, rfl, hSS.mono (by omega) (by simp), by have := HLEN.out; omega, HX.out.2.2, by omega, by omega, LF_mono hLF (by omega)⟩
end Go.Proofs.Ytlcjcihohclmhaa
end
section
/- A literal of the draws. -/
namespace Go.Proofs.Ytlcjcihohclmhaa
open Go.RowKit

theorem Rl.slOther {lo hi : Nat} {w : World} {v : Value} {xs : List Int} (h : SlI lo hi w v xs) {p : Addr} {x : Value} (hp : w.cell? p = some x) (hx : ∀ n, x ≠ .int .i64 n) (u : Value) : SlI lo hi (w.setCell p u) v xs := by
  obtain ⟨ad, cap, rfl, hc, hm, hr⟩ := h
  refine ⟨ad, cap, rfl, hc, hm, fun hpos => ?_⟩
  obtain ⟨b, off, e, a1, a2, a3⟩ := hr hpos
  refine ⟨b, off, e, a1, a2, fun j hj => ?_⟩
  have hne : p ≠ ⟨b, off + j, none⟩ := fun h => by
    have := a3 j hj
    rw [← h, hp] at this
    exact hx _ (Option.some.inj this)
  rw [World.cell?_setCell_other (h := hne)]
  exact a3 j hj
theorem Rl.TF.other {w0 w : World} {v : Value} {t : List Int} (h : Rl.TF w0 w v t) {p : Addr} {x : Value} (hp : w.cell? p = some x) (hx : ∀ n, x ≠ .int .i64 n) (u : Value) : Rl.TF w0 (w.setCell p u) v t := by
  obtain ⟨⟨c, h1, h2, h3⟩, h4⟩ := h
  exact ⟨⟨c, h1, by rw [World.size_setCell]; exact h2, Rl.slOther h3 hp hx u⟩, h4⟩
theorem Rl.TF.box {w0 w : World} {v : Value} {t : List Int} (h : Rl.TF w0 w v t) {g : Nat} {p : Bool} {n1 n2 c1 c2 : Nat} {a1 a2 : Option Addr} (z : Rl.Lb w g (.bool p) (.slice a1 n1 c1) (.slice a2 n2 c2)) (q : Bool) (b1 b2 : Value) :
    Rl.TF w0 (((w.setCell ⟨g, 0, none⟩ (.bool q)).setCell ⟨g, 1, none⟩ b1).setCell ⟨g, 2, none⟩ b2) v t := by
  obtain ⟨⟨q0, q1, q2⟩, q3⟩ := z
  refine ((h.other q0 (fun n => by simp) _).other (p := ⟨g, 1, none⟩) (x := .slice a1 n1 c1) (by simp [go_sem, q1]) (fun n => by simp) _).other (p := ⟨g, 2, none⟩) (x := .slice a2 n2 c2) (by simp [go_sem, q2]) (fun n => by simp) _
theorem Rl.LF.set {b n k d : Nat} {w0 w : World} (h : Rl.LF b n k d w0 w) {p : Addr} (hp : w0.heap.size ≤ p.block) (hb : b < w0.heap.size) (u : Value) : Rl.LF b n k d w0 (w.setCell p u) := by
  obtain ⟨k', h1, h2, h3, h4⟩ := h
  exact ⟨k', h1, h2, h3.chg (Chg.set (lo := p.block) (hi := p.block + 1) w (Nat.le_refl _) (Nat.lt_succ_self _) u) (by omega), Chg.setNew h4 hp u⟩
theorem Rl.LF.trans {b n k d d' : Nat} {w0 w w' : World} (h : Rl.LF b n k d w0 w) (hc : ∀ k', k ≤ k' → k' ≤ k + d → Cur b n k' w → ∃ k2, k' ≤ k2 ∧ k2 ≤ k' + d' ∧ Cur b n k2 w') (hg : Chg b (b+1) w w') : Rl.LF b n k (d + d') w0 w' := by
  obtain ⟨k', h1, h2, h3, h4⟩ := h
  obtain ⟨k2, g1, g2, g3⟩ := hc k' h1 h2 h3
  exact ⟨k2, by omega, by omega, g3, h4.trans hg⟩
theorem Rl.LF.ofBel {b n k d : Nat} {w0 w1 w : World} (h : Rl.LF b n k d w1 w) (hb : Bel w0 w1) : Rl.LF b n k d w0 w := by
  obtain ⟨k', h1, h2, h3, h4⟩ := h
  exact ⟨k', h1, h2, h3, (Chg.of_bel hb).trans h4⟩
theorem Rl.TF.ofBel {w0 w1 w : World} {v : Value} {t : List Int} (h : Rl.TF w1 w v t) (hb : Bel w0 w1) : Rl.TF w0 w v t := by
  obtain ⟨⟨c, h1, h2⟩, h3⟩ := h
  have := hb.size
  exact ⟨⟨c, by omega, h2⟩, h3⟩
/-- A literal of the draws: two terms, each in a block of its own that is new. -/
def RetLt (b n k d : Nat) (w : World) (e : Ending) (w' : World) : Prop :=
  ∃ (p : Bool) (v1 v2 : Value) (t1 t2 : List Int), e = .returned (.agg #[.bool p, v1, v2]) ∧ Rl.TF w w' v1 t1 ∧ Rl.TF w w' v2 t2 ∧ Rl.LF b n k d w w'

set_option maxRecDepth 100000 in
set_option maxHeartbeats 1000000 in
theorem lit_c (b n k lo hi : Nat) (v : Value) (ar : List Int) (w : World) (hn : n ≤ 1099511627776) (hk : k ≤ 200000000000) (hdr : drawn ar) (hblo : b < lo) (hc : Cur b n k w) (hv : SlI lo hi w v ar) :
    Calls Try.prog 74 #[.pointer (some ⟨b, 0, none⟩), .agg #[v]] w (RetLt b n k 8100 w) := by
  have hbl := hc.lt
  have B2 : Bel w ((w.alloc (.cells #[v] 26)).alloc (.cells #[.bool false, .slice none 0 0, .slice none 0 0] 60)) := Bel.alloc2 _ _ _
  have BD : Bel w ((w.alloc (.cells #[v] 26)).alloc (.cells #[.bool false, .slice none 0 0, .slice none 0 0] 60)).drew := B2.drew
  have EZ : Hid (((w.alloc (.cells #[v] 26)).alloc (.cells #[.bool false, .slice none 0 0, .slice none 0 0] 60)).drew.heap.size = w.heap.size + 2) := by show _ = _; simp
  have hbx : ((w.alloc (.cells #[v] 26)).alloc (.cells #[.bool false, .slice none 0 0, .slice none 0 0] 60)).drew.cell? ⟨w.heap.size, 0, none⟩ = some v := (Bel.drew0 _).at (by simp; omega) ((Bel.alloc0 _ _).at (by simp) (by simp [go_sem]))
  have HS := Lib.hid (fun (w' : World) (hg : Chg b (b+1) ((w.alloc (.cells #[v] 26)).alloc (.cells #[.bool false, .slice none 0 0, .slice none 0 0] 60)).drew w') => hg.cell (by have := EZ.out; omega) (.inr (by omega)) hbx)
  have hres : Rl.Zb ((w.alloc (.cells #[v] 26)).alloc (.cells #[.bool false, .slice none 0 0, .slice none 0 0] 60)).drew (w.heap.size + 1) := (by have := Rl.Lb.new (w.alloc (.cells #[v] 26)) 60; rw [World.size_alloc] at this; exact this.bel (Bel.drew0 _))
  have hl0 : Rl.LF b n k 0 ((w.alloc (.cells #[v] 26)).alloc (.cells #[.bool false, .slice none 0 0, .slice none 0 0] 60)).drew ((w.alloc (.cells #[v] 26)).alloc (.cells #[.bool false, .slice none 0 0, .slice none 0 0] 60)).drew := ⟨k, Nat.le_refl _, by omega, hc.below BD, Chg.refl _ _ _⟩
  have hvD := hv.below BD
  have hbD : b < ((w.alloc (.cells #[v] 26)).alloc (.cells #[.bool false, .slice none 0 0, .slice none 0 0] 60)).drew.heap.size := by have := EZ.out; omega
  have HL := Lib.hid (And.intro (And.intro hres hl0) (And.intro hvD hbD))
  clear hres hl0 hvD hbD hv hc
  go_enter Try.func74, Try.ntmps74
  go_wp2_with fail
  refine wp_region_held_drew (S := fun w' => w'.cell? ⟨w.heap.size, 0, none⟩ = some v) (by kernel_rfl) hbx (fun _ => ?_)
  change wpAnyH _ _ _ _ _ 18 #[false, false, false, false, false, false, false, false, false, false, false, false, false, false, false, false, false, false] _ _
  refine wpAnyH_take (i := 0) (oi := ⟨_, _, _, _, _, _⟩) (v := ?v0) rfl (by kernel_rfl) (by kernel_rfl) (by kernel_rfl) (fun _ _ _ h => h) (Or.inl ⟨by rfl, ?hy0⟩) hbx ?rest0
  case hy0 =>
    intro w' hSw
    go_simp
    try with_reducible rfl
  try simp only [Act.put, List.setIfInBounds_toArray, List.set_cons_zero, List.set_cons_succ]
  refine wpAnyH_take (i := 3) (oi := ⟨_, _, _, _, _, _⟩) (v := ?v3) rfl (by kernel_rfl) (by kernel_rfl) (by kernel_rfl) (fun _ _ _ h => h) (Or.inl ⟨by rfl, ?hy3⟩) hbx ?rest3
  case hy3 =>
    intro w' hSw
    go_simp
    try with_reducible rfl
  try simp only [Act.put, List.setIfInBounds_toArray, List.set_cons_zero, List.set_cons_succ]
  refine wpAnyH_take (i := 4) (oi := ⟨_, _, _, _, _, _⟩) (v := ?v4) rfl (by kernel_rfl) (by kernel_rfl) (by kernel_rfl) (fun _ _ _ h => h) (Or.inl ⟨by rfl, ?hy4⟩) hbx ?rest4
  case hy4 =>
    intro w' hSw
    go_simp
    try with_reducible rfl
  try simp only [Act.put, List.setIfInBounds_toArray, List.set_cons_zero, List.set_cons_succ]
  refine wpAnyH_take (i := 5) (oi := ⟨_, _, _, _, _, _⟩) (v := ?v5) rfl (by kernel_rfl) (by kernel_rfl) (by kernel_rfl) (fun _ _ _ h => h) (Or.inl ⟨by rfl, ?hy5⟩) hbx ?rest5
  case hy5 =>
    intro w' hSw
    go_simp
    try with_reducible rfl
  try simp only [Act.put, List.setIfInBounds_toArray, List.set_cons_zero, List.set_cons_succ]
  refine wpAnyH_take (i := 9) (oi := ⟨_, _, _, _, _, _⟩) (v := ?v9) rfl (by kernel_rfl) (by kernel_rfl) (by kernel_rfl) (fun _ _ _ h => h) (Or.inl ⟨by rfl, ?hy9⟩) hbx ?rest9
  case hy9 =>
    intro w' hSw
    go_simp
    try with_reducible rfl
  try simp only [Act.put, List.setIfInBounds_toArray, List.set_cons_zero, List.set_cons_succ]
  refine wpAnyH_take (i := 10) (oi := ⟨_, _, _, _, _, _⟩) (v := ?v10) rfl (by kernel_rfl) (by kernel_rfl) (by kernel_rfl) (fun _ _ _ h => h) (Or.inl ⟨by rfl, ?hy10⟩) hbx ?rest10
  case hy10 =>
    intro w' hSw
    go_simp
    try with_reducible rfl
  try simp only [Act.put, List.setIfInBounds_toArray, List.set_cons_zero, List.set_cons_succ]
  refine wpAnyH_take (i := 11) (oi := ⟨_, _, _, _, _, _⟩) (v := ?v11) rfl (by kernel_rfl) (by kernel_rfl) (by kernel_rfl) (fun _ _ _ h => h) (Or.inl ⟨by rfl, ?hy11⟩) hbx ?rest11
  case hy11 =>
    intro w' hSw
    go_simp
    try with_reducible rfl
  try simp only [Act.put, List.setIfInBounds_toArray, List.set_cons_zero, List.set_cons_succ]
  refine Rl.lt0_0 (b := b) (n := n) (k := k) (ar := ar) (sv := v) (w0 := ((w.alloc (.cells #[v] 26)).alloc (.cells #[.bool false, .slice none 0 0, .slice none 0 0] 60)).drew) (Rl.LtReg.mk ?rs ?r1 ?r2 ?r6 ?r7 ?r8 ?r12 ?r13 ?r14 ?r15 ?r16 ?rrd ?rtk) ?rt (fun _ _ d _ _ h => by cases d <;> exact h) HS.out HL.out.2.2 hn (by omega) hdr hblo HL.out.2.1 _ _ _ _ _ _ _ _ _ _ _ HL.out.1.2
  case rs => kernel_rfl
  case r1 => exact ⟨_, _, rfl, rfl, rfl, rfl⟩
  case r2 => exact ⟨_, _, rfl, rfl, rfl, rfl⟩
  case r6 => exact ⟨_, _, rfl, rfl, rfl, rfl⟩
  case r7 => exact ⟨_, rfl, rfl, rfl, rfl⟩
  case r8 => exact ⟨_, _, rfl, rfl, rfl, rfl⟩
  case r12 => exact ⟨_, _, rfl, rfl, rfl, rfl⟩
  case r13 => exact ⟨_, rfl, rfl, rfl, rfl⟩
  case r14 => exact ⟨_, _, rfl, rfl, rfl, rfl⟩
  case r15 => exact ⟨_, rfl, rfl, rfl, rfl⟩
  case r16 => exact ⟨_, rfl, rfl, rfl, rfl⟩
  case rrd => kernel_rfl
  case rtk => kernel_rfl
  case rt =>
  intro x1 x2 y1 s1 x3 y2 s2 g wx z lg hl t1 t2
  have hgx : Chg b (b+1) ((w.alloc (.cells #[v] 26)).alloc (.cells #[.bool false, .slice none 0 0, .slice none 0 0] 60)).drew wx := by obtain ⟨_, _, _, _, h4⟩ := hl; exact h4
  have hres := HL.out.1.1.chg hgx (by omega)
  have hg1 : w.heap.size + 1 ≠ g := by have := EZ.out; omega
  obtain ⟨a1, c1, rfl⟩ := t1.form
  obtain ⟨a2, c2, rfl⟩ := t2.form
  have z0 := z
  obtain ⟨⟨q0, q1, q2⟩, q3⟩ := z
  refine wpAnyH_ready (rs := [17]) (by kernel_rfl) (by simp) ?_
  refine AllReadyH.cons rfl (fun K hK => ?_) AllReadyH.nil
  simp only [Rl.pt]
  go_simp
  have L1 := z0.put (.bool (!x1)) (.slice a1 s1.length c1) (.slice a2 s2.length c2)
  have T1 := t1.box z0 (!x1) (.slice a1 s1.length c1) (.slice a2 s2.length c2)
  have T2 := t2.box z0 (!x1) (.slice a1 s1.length c1) (.slice a2 s2.length c2)
  have F1 := ((hl.set (p := ⟨g, 0, none⟩) lg HL.out.2.2 (.bool (!x1))).set (p := ⟨g, 1, none⟩) lg HL.out.2.2 (.slice a1 s1.length c1)).set (p := ⟨g, 2, none⟩) lg HL.out.2.2 (.slice a2 s2.length c2)
  have Z1 := ((hres.far hg1 0 (.bool (!x1))).far hg1 1 (.slice a1 s1.length c1)).far hg1 2 (.slice a2 s2.length c2)
  clear z0 q0 q1 q2 q3 t1 t2 hl hres hgx
  generalize (((wx.setCell ⟨g, 0, none⟩ (.bool (!x1))).setCell ⟨g, 1, none⟩ (.slice a1 s1.length c1)).setCell ⟨g, 2, none⟩ (.slice a2 s2.length c2)) = wy at *
  refine hK.out _ _ (HS.out _ (by obtain ⟨_, _, _, _, h4⟩ := F1; exact h4)) (fun _ => ?_)
  clear hK K
  refine wpAnyH_done (by kernel_rfl) ?_ _
  have hbD := HL.out.2.2
  obtain ⟨k1, f1, f2, f3, f4⟩ := F1
  have hzy := f4.size
  have HO := Lib.hid (one_c b n k1 3 3 wy rfl hn (by omega) (by omega) f3)
  have HF4 := Lib.hid (And.intro f3 f4)
  clear HL HS f3 f4 hbx
  go_wp2_with fail
  refine HO.out.mono ?_; rintro e wz ⟨q, k2, rfl, g1, g2, g3, g4⟩
  have L2 := L1.chg g4 (by omega)
  have Z2 := Z1.chg g4 (by omega)
  have T3 := T1.chg g4 hbD
  have T4 := T2.chg g4 hbD
  have hbo := HF4.out.2.trans g4
  have F2 : Rl.LF b n k 8100 w wz := ⟨k2, by omega, by omega, g3, (Chg.of_bel BD).trans hbo⟩
  clear L1 Z1 T1 T2 HO HF4
  have hz2 := hbo.size
  cases q with
  | false =>
    obtain ⟨⟨q0, q1, q2⟩, q3⟩ := L2
    obtain ⟨⟨r0, r1, r2⟩, r3⟩ := Z2
    have HE := Lib.hid (And.intro (And.intro T3 T4) F2)
    have R2 := Lib.hid (And.intro (And.intro q0 (And.intro q1 q2)) (And.intro (And.intro r0 (And.intro r1 r2)) r3))
    clear T3 T4 F2 g3 g4 hbo
    go_wp2_with fail
    have Z3 : Rl.Lb wz (w.heap.size + 1) (.bool false) (.slice none 0 0) (.slice none 0 0) := ⟨R2.out.2.1, R2.out.2.2⟩
    have hb1 : w.heap.size ≤ w.heap.size + 1 := Nat.le_succ _
    obtain ⟨⟨y0, y1, y2⟩, -⟩ := Z3.put (.bool (!x1)) (.slice a1 s1.length c1) (.slice a2 s2.length c2)
    try simp only [Exit.inBlock, Exit.then]
    refine bodyPost_ret (v := .agg #[.bool (!x1), .slice a1 s1.length c1, .slice a2 s2.length c2]) (by simp [results, Try.results74, go_sem, y0, y1, y2]) rfl ⟨!x1, _, _, s1, s2, rfl, (HE.out.1.1.box Z3 _ _ _).ofBel BD, (HE.out.1.2.box Z3 _ _ _).ofBel BD, ((HE.out.2.set (p := ⟨w.heap.size + 1, 0, none⟩) hb1 hbl _).set (p := ⟨w.heap.size + 1, 1, none⟩) hb1 hbl _).set (p := ⟨w.heap.size + 1, 2, none⟩) hb1 hbl _⟩
  | true =>
    have hgz := L2.lt
    have ZA := (Z2.far hg1 2 (.slice (some ⟨wz.heap.size, 0, none⟩) 1 1)).bel (Bel.alloc0 _ (.cells #[.int .i64 0] 3))
    have LB := (L2.put2 (.slice (some ⟨wz.heap.size, 0, none⟩) 1 1)).bel (Bel.alloc0 _ (.cells #[.int .i64 0] 3))
    have T5 := (T3.other (p := ⟨g, 2, none⟩) L2.1.2.2 (fun n => by simp) (.slice (some ⟨wz.heap.size, 0, none⟩) 1 1)).alloc (.cells #[.int .i64 0] 3)
    have T6 : Rl.TF ((w.alloc (.cells #[v] 26)).alloc (.cells #[.bool false, .slice none 0 0, .slice none 0 0] 60)).drew ((wz.setCell ⟨g, 2, none⟩ (.slice (some ⟨wz.heap.size, 0, none⟩) 1 1)).alloc (.cells #[.int .i64 0] 3)) (.slice (some ⟨wz.heap.size, 0, none⟩) 1 1) [0] := ⟨⟨wz.heap.size, hz2, by simp, SlI.arr (xs := [0]) rfl (by simp) (by simp) (Nat.le_refl _) (Nat.lt_succ_self _)⟩, by simp, by simp⟩
    have F3 := (F2.set (p := ⟨g, 2, none⟩) (show w.heap.size ≤ g by have := EZ.out; omega) hbl (.slice (some ⟨wz.heap.size, 0, none⟩) 1 1)).alloc (.cells #[.int .i64 0] 3)
    have HE := Lib.hid (And.intro (And.intro T5 T6) F3)
    have HZ := Lib.hid ZA
    obtain ⟨⟨p0, p1, p2⟩, p3⟩ := L2
    obtain ⟨⟨q0, q1, q2⟩, q3⟩ := LB
    obtain ⟨⟨r0, r1, r2⟩, r3⟩ := ZA
    clear T3 T4 T5 T6 F2 F3 g3 g4 hbo Z2
    go_wp2_with fail
    have hb1 : w.heap.size ≤ w.heap.size + 1 := Nat.le_succ _
    obtain ⟨⟨y0, y1, y2⟩, -⟩ := HZ.out.put (.bool (!x1)) (.slice a1 s1.length c1) (.slice (some ⟨wz.heap.size, 0, none⟩) 1 1)
    try simp only [Exit.inBlock, Exit.then]
    refine bodyPost_ret (v := .agg #[.bool (!x1), .slice a1 s1.length c1, .slice (some ⟨wz.heap.size, 0, none⟩) 1 1]) (by simp [results, Try.results74, go_sem, y0, y1, y2]) rfl ⟨!x1, _, _, s1, [0], rfl, (HE.out.1.1.box HZ.out _ _ _).ofBel BD, (HE.out.1.2.box HZ.out _ _ _).ofBel BD, ((HE.out.2.set (p := ⟨w.heap.size + 1, 0, none⟩) hb1 hbl _).set (p := ⟨w.heap.size + 1, 1, none⟩) hb1 hbl _).set (p := ⟨w.heap.size + 1, 2, none⟩) hb1 hbl _⟩
end Go.Proofs.Ytlcjcihohclmhaa
end
section
/- append of one literal to a row of literals of the call's own: at a plain region, and at a step of a region that draws. -/
namespace Go.Proofs.Ytlcjcihohclmhaa
open Go.RowKit

/-- A row of literals of the call's own. -/
abbrev RowC (lo : Nat) (w : World) (v : Value) (zs : List LV) : Prop := w.ownsRow lo 60 3 v zs.length (cellsC zs)
theorem RowC.nil (lo : Nat) (w : World) : RowC lo w (.slice none 0 0) [] := World.ownsRow_nil _ _ _ _
theorem news_lit (w : World) (x y z : Value) (t : TypeId) (g : Nat) (hg : g = w.heap.size) : ∀ j u, [x, y, z][j]? = some u → (w.alloc (.cells #[x, y, z] t)).cell? ((⟨g, 0, none⟩ : Addr).add j) = some u := by
  subst hg
  intro j u hj
  match j, hj with
  | 0, hj => simp at hj; subst hj; rw [show (⟨w.heap.size, 0, none⟩ : Addr).add 0 = ⟨w.heap.size, 0, none⟩ from rfl, World.cell?_alloc_new w]; rfl
  | 1, hj => simp at hj; subst hj; rw [addr_add, World.cell?_alloc_new w]; rfl
  | 2, hj => simp at hj; subst hj; rw [addr_add, World.cell?_alloc_new w]; rfl
theorem one_lit (p : Bool) (a b : Option Addr) (n m c d : Nat) : ∀ u ∈ [Value.bool p, Value.slice a n c, Value.slice b m d], u.oneCell' = true := by
  intro u hu; simp at hu; rcases hu with rfl | rfl | rfl <;> rfl

theorem step_append_lit {w : World} {ops : Array Oper} {o : Oper} {a : Act} {K : Act → World → Prop} {Q : Exit → Act → World → Prop} {E : Prop} (hgd : o.guard = none) (s x : Operand) (d : Nat) (hd : o.dst = some d)
    (ho : o.op = .call { callee := .builtin .append, args := #[s, x], argTypes := #[30, 30] })
    (base : Nat) (v : Value) (zs : List LV) (hs : a.eval s = v) (hown : RowC base w v zs) (g : Nat) (p : Bool) (z1 z2 : SV) (hx : a.eval x = .slice (some ⟨g, 0, none⟩) 1 1)
    (hnews : ∀ j u, [Value.bool p, encS z1, encS z2][j]? = some u → w.cell? ((⟨g, 0, none⟩ : Addr).add j) = some u)
    (hl : zs.length ≤ 1048576) (hbase : base ≤ w.heap.size)
    (h : ∀ ad n c w', RowC base w' (.slice ad n c) (zs ++ [(p, encS z1, encS z2)]) → w.grownBy w' v.ownBlock → K (a.put (some d) (.slice ad n c)) w') :
    if Region.wanted o (yielded ops a.tmps) = true then Oper.wp Try.prog o a w K Q else E := by
  obtain ⟨i0, hi0, hz0, hz1, hz2⟩ := info_parts Try.info60
  have hw : Region.wanted o (yielded ops a.tmps) = true := by simp [Region.wanted, hgd]
  rw [if_pos hw]
  rw [← hd] at h
  refine wp_append_own w s x 30 ho base 60 i0 (.agg #[.bool false, .slice none 0 0, .slice none 0 0]) 3 56 Try.underlying30 hi0 hz0 hz1 hz2 rfl (by decide) v zs.length (cellsC zs) hs hown
    ⟨g, 0, none⟩ 1 1 [.bool p, encS z1, encS z2] hx (by simp) hnews (one_lit _ _ _ _ _ _ _) (by unfold maxLen; omega) (by omega) hbase (fun v' w' h1 h2 _ => ?_)
  obtain ⟨ad, n, c, rfl⟩ := own_form h1
  refine h ad n c w' ?_ h2
  have e : cellsC (zs ++ [(p, encS z1, encS z2)]) = cellsC zs ++ [.bool p, encS z1, encS z2] := by rw [cellsC_app]; rfl
  show World.ownsRow _ _ _ _ _ _ _
  rw [e]
  simpa using h1
end Go.Proofs.Ytlcjcihohclmhaa
end
section
/- A row of literals of the call's own, whose terms are the call's own too, grown by append. -/
namespace Go.Proofs.Ytlcjcihohclmhaa
open Go.RowKit

/-- One more, in a block that none of the others has. -/
theorem Ins.snocG {lo hi b : Nat} {w : World} {us : List Value} {xss : List (List Int)} {bs : Nat → Nat} (h : Ins lo hi b w us xss bs) {l2 h2 : Nat} {u : Value} {xs : List Int} (ho : OwnI l2 h2 w u xs)
    (hne : ∀ j, j < xss.length → 0 < (xss.getD j []).length → bs j < l2 ∨ h2 ≤ bs j) (hlo : lo ≤ l2) (hbl : b < l2 ∨ h2 ≤ b) {hi2 : Nat} (h1 : h2 ≤ hi2) (h3 : hi ≤ hi2) :
    ∃ bs', Ins lo hi2 b w (us ++ [u]) (xss ++ [xs]) bs' ∧ (∀ j, j < xss.length → bs' j = bs j) ∧ (0 < xs.length → l2 ≤ bs' xss.length ∧ bs' xss.length < h2) := by
  obtain ⟨c, hc, hr⟩ := ho.block
  have hn := h.len
  refine ⟨fun j => if j = xss.length then c else bs j, ⟨by simp [hn], fun j hj hp => ?_, fun i j hij hj hpi hpj => ?_, fun j v hj => ?_⟩, fun j hj => by simp; omega, fun hp => by simpa using hr hp⟩
  · by_cases e : j = xss.length
    · subst e
      simp only [List.getD, List.getElem?_append_right (Nat.le_refl _), Nat.sub_self, List.getElem?_cons_zero, Option.getD_some] at hp
      have := hr hp
      simp only [if_true]
      omega
    · have hlt : j < xss.length := by simp at hj; omega
      simp only [List.getD, List.getElem?_append_left hlt] at hp
      have := h.rng j hlt hp
      simp only [e, if_false]
      omega
  · have hilt : i < xss.length := by simp at hj; omega
    simp only [List.getD, List.getElem?_append_left hilt] at hpi
    by_cases e : j = xss.length
    · subst e
      simp only [List.getD, List.getElem?_append_right (Nat.le_refl _), Nat.sub_self, List.getElem?_cons_zero, Option.getD_some] at hpj
      have h5 := hr hpj
      have h6 := hne i hilt hpi
      simp only [if_true]
      rw [if_neg (by omega)]
      omega
    · have hlt : j < xss.length := by simp at hj; omega
      simp only [List.getD, List.getElem?_append_left hlt] at hpj
      simp only [e, if_false]
      rw [if_neg (by omega)]
      exact h.inj i j hij hlt hpi hpj
  · by_cases e : j = xss.length
    · subst e
      rw [List.getElem?_append_right (by omega), hn, Nat.sub_self] at hj
      simp only [List.getElem?_cons_zero, Option.some.injEq] at hj
      subst hj
      simpa [List.getD] using hc
    · have hlt : j < us.length := by
        have := (List.getElem?_eq_some_iff.1 hj).1
        simp at this; omega
      rw [List.getElem?_append_left hlt] at hj
      have := h.own j v hj
      simp only [e, if_false]
      simpa [List.getD, List.getElem?_append_left (show j < xss.length by omega)] using this

def RowCO (base : Nat) (w : World) (v : Value) (c : List Lt) : Prop :=
  ∃ (zs : List LV) (bs : Nat → Nat), RowC base w v zs ∧ zs.map (·.1) = c.map (·.1) ∧ Ins base w.heap.size (rowBlk w v) w (rowsC zs) (flatC c) bs
theorem RowCO.nil (base : Nat) (w : World) : RowCO base w (.slice none 0 0) [] := ⟨[], _, RowC.nil _ _, rfl, (Ins.none _ _ _ _).mono (Nat.le_refl _) (Nat.le_refl _)⟩
theorem RowCO.len {base : Nat} {w : World} {v : Value} {c : List Lt} (h : RowCO base w v c) : ∃ zs : List LV, RowC base w v zs ∧ zs.length = c.length := by
  obtain ⟨zs, bs, h1, h2, _⟩ := h
  exact ⟨zs, h1, by simpa using congrArg List.length h2⟩
theorem RowCO.bel {base : Nat} {w w' : World} {v : Value} {c : List Lt} (h : RowCO base w v c) (hb : Bel w w') : RowCO base w' v c := by
  obtain ⟨zs, bs, ho, hp, hi⟩ := h
  refine ⟨zs, bs, ownsRow_bel ho hb, hp, ((hi.below hb).mono (Nat.le_refl _) hb.size).blk fun j hj hpos => ?_⟩
  have hr := hi.rng j hj hpos
  unfold rowBlk at hr ⊢
  cases hv : v.ownBlock with
  | none => have := hb.size; simp only [Option.getD_none]; omega
  | some g => rw [hv] at hr; simp only [Option.getD_some] at hr ⊢; exact hr.2.2
theorem RowCO.own {base : Nat} {w : World} {v : Value} {c : List Lt} (h : RowCO base w v c) : OwnC base w.heap.size w v c := by
  obtain ⟨zs, bs, ho, hp, hi⟩ := h
  have hzl : zs.length = c.length := by simpa using congrArg List.length hp
  refine OwnC.of_row (zs := zs) (bs := bs) (e := 60) (by rw [← hzl]; exact ho) (Nat.le_refl _) hp (fun g hg => ?_)
  unfold rowBlk at hi
  rw [hg] at hi
  exact hi
theorem RowCO.blk {base : Nat} {w : World} {v : Value} {c : List Lt} (h : RowCO base w v c) : ∀ g, v.ownBlock = some g → base ≤ g ∧ g < w.heap.size := by
  obtain ⟨zs, bs, ho, _⟩ := h
  exact ho.lt
theorem row_len3 {w : World} {base e n m c : Nat} {ad : Option Addr} {xs : List Value} (h : w.ownsRow base e 3 (.slice ad n c) m xs) : n = m := by
  rcases h.2 with ⟨e1, h2⟩ | ⟨g, cap, cur, e1, _⟩
  · simp only [Value.slice.injEq] at e1; omega
  · simp only [Value.slice.injEq] at e1; omega
theorem RowCO.form {base : Nat} {w : World} {v : Value} {c : List Lt} (h : RowCO base w v c) : ∃ ad k, v = .slice ad c.length k := h.own.sl.form
theorem RowCO.step {base l1 h1 l2 h2 : Nat} {w0 w1 w2 : World} {v u1 u2 : Value} {c : List Lt} {t1 t2 : List Int} (h : RowCO base w0 v c) (hb1 : Bel w0 w1) (hb2 : Bel w1 w2) (o1 : OwnI l1 h1 w1 u1 t1) (o2 : OwnI l2 h2 w1 u2 t2)
    (r1 : w0.heap.size ≤ l1) (r2 : w0.heap.size ≤ l2) (q1 : h1 ≤ w1.heap.size) (q2 : h2 ≤ w1.heap.size) (hd : h1 ≤ l2 ∨ h2 ≤ l1) (hbase : base ≤ w0.heap.size) (p : Bool) :
    ∃ zs : List LV, RowC base w2 v zs ∧ zs.length = c.length ∧ ∀ w3 v', RowC base w3 v' (zs ++ [(p, u1, u2)]) → w2.grownBy w3 v.ownBlock → (v'.ownBlock = v.ownBlock ∨ v'.ownBlock = some w2.heap.size) → RowCO base w3 v' (c ++ [(p, t1, t2)]) := by
  obtain ⟨zs, bs, hw, hp, hi⟩ := h
  have hlt := hw.lt
  have hz1 := hb1.size
  have hz2 := hb2.size
  have hzl : zs.length = c.length := by simpa using congrArg List.length hp
  refine ⟨zs, ownsRow_bel hw (hb1.step hb2), hzl, fun w3 v' hown hg hat => ?_⟩
  have hz3 := hg.size
  obtain ⟨b', hb'⟩ : ∃ b', v'.ownBlock = some b' := by
    rcases hown.2 with ⟨_, hn⟩ | ⟨g, cap, cur, rfl, _⟩
    · simp at hn
    · exact ⟨g, by simp [Value.ownBlock]⟩
  have hrb : rowBlk w3 v' = b' := by unfold rowBlk; rw [hb']; rfl
  have hi2 := hi.below (hb1.step hb2)
  have hi3 : Ins base w0.heap.size (rowBlk w0 v) w3 (rowsC zs) (flatC c) bs := by
    refine hi2.but fun x hx _ hxl hx2 => hg.block x hx2 fun e => hx ?_
    unfold rowBlk; rw [← e]; rfl
  have hbb : b' < w0.heap.size ∨ w2.heap.size ≤ b' := by
    rcases hat with e | e
    · rw [hb'] at e; exact .inl (hlt b' e.symm).2
    · rw [hb'] at e; simp at e; exact .inr (by omega)
  have hne : ∀ j, j < (flatC c).length → 0 < ((flatC c).getD j []).length → bs j ≠ b' := by
    intro j hj hpos
    have hr := hi.rng j hj hpos
    rcases hat with e | e
    · unfold rowBlk at hr; rw [← e, hb'] at hr; exact hr.2.2
    · rw [hb'] at e; simp at e; omega
  have ho1 : OwnI l1 h1 w3 u1 t1 := (o1.below hb2).same fun x hx1 hx2 hx3 => hg.block x hx3 fun e => by have := (hlt x e.symm).2; omega
  have ho2 : OwnI l2 h2 w3 u2 t2 := (o2.below hb2).same fun x hx1 hx2 hx3 => hg.block x hx3 fun e => by have := (hlt x e.symm).2; omega
  have hi4 := hi3.blk hne
  obtain ⟨bs1, hf1, hsame, hnew⟩ := hi4.snocG ho1 (fun j hj hpos => by have := hi4.rng j hj hpos; omega) (by omega) (by omega) (hi2 := w1.heap.size) (by omega) (by omega)
  obtain ⟨bs2, hf2, _, _⟩ := hf1.snocG ho2 (fun j hj hpos => by
    by_cases e : j = (flatC c).length
    · subst e
      have : 0 < t1.length := by simpa [List.getD] using hpos
      have := hnew this
      omega
    · have hjl : j < (flatC c).length := by simp at hj; omega
      have hp' : 0 < ((flatC c).getD j []).length := by simpa [List.getD, List.getElem?_append_left hjl] using hpos
      have := hi4.rng j hjl hp'
      rw [hsame j hjl]
      omega) (by omega) (by omega) (hi2 := w3.heap.size) (by omega) (by omega)
  refine ⟨zs ++ [(p, u1, u2)], bs2, hown, by rw [List.map_append, List.map_append, hp]; rfl, ?_⟩
  rw [hrb, rowsC_app, flatC_app]
  simpa [rowsC, flatC] using hf2

theorem step_append_litO {w : World} {ops : Array Oper} {o : Oper} {a : Act} {K : Act → World → Prop} {Q : Exit → Act → World → Prop} {E : Prop} (hgd : o.guard = none) (s x : Operand) (d : Nat) (hd : o.dst = some d)
    (ho : o.op = .call { callee := .builtin .append, args := #[s, x], argTypes := #[30, 30] })
    (base : Nat) (v : Value) (zs : List LV) (hs : a.eval s = v) (hown : RowC base w v zs) (g : Nat) (p : Bool) (z1 z2 : SV) (hx : a.eval x = .slice (some ⟨g, 0, none⟩) 1 1)
    (hnews : ∀ j u, [Value.bool p, encS z1, encS z2][j]? = some u → w.cell? ((⟨g, 0, none⟩ : Addr).add j) = some u)
    (hl : zs.length ≤ 1048576) (hbase : base ≤ w.heap.size)
    (h : ∀ b k w', RowC base w' (.slice (some ⟨b, 0, none⟩) (zs.length + 1) k) (zs ++ [(p, encS z1, encS z2)]) → w.grownBy w' v.ownBlock → ((Value.slice (some ⟨b, 0, none⟩) (zs.length + 1) k).ownBlock = v.ownBlock ∨ (Value.slice (some ⟨b, 0, none⟩) (zs.length + 1) k).ownBlock = some w.heap.size) → K (a.put (some d) (.slice (some ⟨b, 0, none⟩) (zs.length + 1) k)) w') :
    if Region.wanted o (yielded ops a.tmps) = true then Oper.wp Try.prog o a w K Q else E := by
  obtain ⟨i0, hi0, hz0, hz1, hz2⟩ := info_parts Try.info60
  rw [← hd] at h
  refine step_append_lies w hgd s x 30 ho base 60 i0 (.agg #[.bool false, .slice none 0 0, .slice none 0 0]) 3 56 Try.underlying30 hi0 hz0 hz1 hz2 rfl (by decide) v zs.length (cellsC zs) hs hown
    ⟨g, 0, none⟩ 1 1 [.bool p, encS z1, encS z2] hx (by simp) hnews (one_lit _ _ _ _ _ _ _) (by decide) (by unfold maxLen; omega) (by omega) hbase w.heap.size rfl (fun b k w' h1 h2 h3 _ => ?_)
  refine h b k w' ?_ h2 ?_
  · have e : cellsC (zs ++ [(p, encS z1, encS z2)]) = cellsC zs ++ [.bool p, encS z1, encS z2] := by rw [cellsC_app]; rfl
    show World.ownsRow _ _ _ _ _ _ _
    rw [e]
    simpa using h1
  · rcases h3 with h3 | h3
    · exact .inl (by rw [h3]; simp [Value.ownBlock])
    · exact .inr (by subst h3; simp [Value.ownBlock])
end Go.Proofs.Ytlcjcihohclmhaa
end
section
/- A row of literals of the draws, whose terms may be shared. No program. -/
namespace Go.Proofs.Ytlcjcihohclmhaa
open Go.RowKit

/-- A term of the draws, in a block that is not the row's. -/
def TD (B : Nat) (w : World) (o v : Value) (t : List Int) : Prop := (∃ g, B ≤ g ∧ g < w.heap.size ∧ o.ownBlock ≠ some g ∧ SlI g (g+1) w v t) ∧ t.length ≤ 400
theorem TD.of {B : Nat} {w0 w : World} {o v : Value} {t : List Int} (h : Rl.TF w0 w v t) (hB : B ≤ w0.heap.size) (ho : ∀ g, o.ownBlock = some g → g < w0.heap.size) : TD B w o v t := by
  obtain ⟨⟨c, h1, h2, h3⟩, h4⟩ := h
  exact ⟨⟨c, by omega, h2, fun e => by have := ho c e; omega, h3⟩, h4.2⟩
theorem TD.bel {B : Nat} {w w' : World} {o v : Value} {t : List Int} (h : TD B w o v t) (hb : Bel w w') : TD B w' o v t := by
  obtain ⟨⟨c, h1, h2, h3, h5⟩, h4⟩ := h
  exact ⟨⟨c, h1, Nat.lt_of_lt_of_le h2 hb.size, h3, h5.below hb⟩, h4⟩
theorem TD.chg {b B : Nat} {w w' : World} {o v : Value} {t : List Int} (h : TD B w o v t) (k : Chg b (b+1) w w') (hb : b < B) : TD B w' o v t := by
  obtain ⟨⟨c, h1, h2, h3, h5⟩, h4⟩ := h
  exact ⟨⟨c, h1, Nat.lt_of_lt_of_le h2 k.size, h3, h5.chg k (by omega)⟩, h4⟩
theorem TD.grown {B : Nat} {w w' : World} {o o' v : Value} {t : List Int} (h : TD B w o v t) (hg : w.grownBy w' o.ownBlock) (ho : o'.ownBlock = o.ownBlock ∨ o'.ownBlock = some w.heap.size) : TD B w' o' v t := by
  obtain ⟨⟨c, h1, h2, h3, h5⟩, h4⟩ := h
  refine ⟨⟨c, h1, Nat.lt_of_lt_of_le h2 hg.size, fun e => ?_, h5.same fun x hx1 hx2 hx3 => hg.block x hx3 fun e => ?_⟩, h4⟩
  · rcases ho with ho | ho
    · exact h3 (by rw [← ho]; exact e)
    · rw [ho] at e; simp at e; omega
  · exact h3 (by rw [← e]; congr 1; omega)
theorem TD.form {B : Nat} {w : World} {o v : Value} {t : List Int} (h : TD B w o v t) : ∃ a c, v = .slice a t.length c := by
  obtain ⟨⟨c, _, _, _, h3⟩, _⟩ := h
  exact h3.form

def RowD (B : Nat) (w : World) (o : Value) (c : List Lt) : Prop :=
  ∃ zs : List LV, RowC B w o zs ∧ zs.length = c.length ∧ ∀ j z, zs[j]? = some z → z.1 = (c.getD j lt0).1 ∧ TD B w o z.2.1 (c.getD j lt0).2.1 ∧ TD B w o z.2.2 (c.getD j lt0).2.2
theorem RowD.nil (B : Nat) (w : World) : RowD B w (.slice none 0 0) [] := ⟨[], RowC.nil _ _, rfl, fun j z h => by simp at h⟩
theorem RowD.form {B : Nat} {w : World} {o : Value} {c : List Lt} (h : RowD B w o c) : ∃ ad k, o = .slice ad c.length k := by
  obtain ⟨zs, ho, h1, h2⟩ := h
  obtain ⟨ad, n, k, rfl⟩ := own_form ho
  exact ⟨ad, k, by rw [row_len3 ho, h1]⟩
theorem RowD.bel {B : Nat} {w w' : World} {o : Value} {c : List Lt} (h : RowD B w o c) (hb : Bel w w') : RowD B w' o c := by
  obtain ⟨zs, ho, h1, h2⟩ := h
  exact ⟨zs, ownsRow_bel ho hb, h1, fun j z hz => ⟨(h2 j z hz).1, (h2 j z hz).2.1.bel hb, (h2 j z hz).2.2.bel hb⟩⟩
theorem row3_chg {w w' : World} {b base : Nat} {e : TypeId} {v : Value} {m : Nat} {xs : List Value} (h : w.ownsRow base e 3 v m xs) (hb : b < base) (k : Chg b (b+1) w w') : w'.ownsRow base e 3 v m xs := by
  refine ⟨h.1, ?_⟩
  rcases h.2 with h0 | ⟨g, cap, cur, e1, e2, hh, r⟩
  · exact .inl h0
  · exact .inr ⟨g, cap, cur, e1, e2, by rw [k.block g (Array.getElem?_eq_some_iff.1 hh).1 (by omega)]; exact hh, r⟩
theorem RowD.chg {b B : Nat} {w w' : World} {o : Value} {c : List Lt} (h : RowD B w o c) (k : Chg b (b+1) w w') (hb : b < B) : RowD B w' o c := by
  obtain ⟨zs, ho, h1, h2⟩ := h
  exact ⟨zs, row3_chg ho hb k, h1, fun j z hz => ⟨(h2 j z hz).1, (h2 j z hz).2.1.chg k hb, (h2 j z hz).2.2.chg k hb⟩⟩
theorem RowD.lt {B : Nat} {w : World} {o : Value} {c : List Lt} (h : RowD B w o c) : ∀ g, o.ownBlock = some g → B ≤ g ∧ g < w.heap.size := by
  obtain ⟨zs, ho, _⟩ := h
  exact ho.lt
/-- One literal more. -/
theorem RowD.snoc {B : Nat} {w w' : World} {o o' : Value} {c : List Lt} {zs : List LV} {z : LV} {x : Lt} (h1 : zs.length = c.length) (h2 : ∀ j z, zs[j]? = some z → z.1 = (c.getD j lt0).1 ∧ TD B w o z.2.1 (c.getD j lt0).2.1 ∧ TD B w o z.2.2 (c.getD j lt0).2.2)
    (hz : z.1 = x.1 ∧ TD B w o z.2.1 x.2.1 ∧ TD B w o z.2.2 x.2.2) (hn : RowC B w' o' (zs ++ [z])) (hg : w.grownBy w' o.ownBlock) (ho : o'.ownBlock = o.ownBlock ∨ o'.ownBlock = some w.heap.size) : RowD B w' o' (c ++ [x]) := by
  refine ⟨zs ++ [z], hn, by simp [h1], fun j y hj => ?_⟩
  by_cases e : j < zs.length
  · rw [List.getElem?_append_left e] at hj
    obtain ⟨a1, a2, a3⟩ := h2 j y hj
    have e2 : (c ++ [x]).getD j lt0 = c.getD j lt0 := by simp [List.getD, List.getElem?_append_left (show j < c.length by omega)]
    rw [e2]
    exact ⟨a1, a2.grown hg ho, a3.grown hg ho⟩
  · have hlt := (List.getElem?_eq_some_iff.1 hj).1
    simp at hlt
    obtain rfl : j = zs.length := by omega
    rw [List.getElem?_append_right (Nat.le_refl _), Nat.sub_self] at hj
    simp at hj
    subst hj
    have e2 : (c ++ [x]).getD zs.length lt0 = x := by rw [h1]; simp [List.getD]
    rw [e2]
    exact ⟨hz.1, hz.2.1.grown hg ho, hz.2.2.grown hg ho⟩
/-- As a slice of literals that may be read. -/
theorem RowD.slc {B : Nat} {w : World} {o : Value} {c : List Lt} (h : RowD B w o c) : SlC B w.heap.size w o c := by
  obtain ⟨zs, ho, h1, h2⟩ := h
  have h0 := ho
  rcases ho.2 with ⟨rfl, hn⟩ | ⟨g, cap, cur, rfl, hg, hh, hn, hc, hs, ht⟩
  · obtain rfl : c = [] := List.length_eq_zero_iff.1 (by omega)
    exact SlC.nil _ _ _
  · have hgs : g < w.heap.size := (Array.getElem?_eq_some_iff.1 hh).1
    refine ⟨_, cap, by rw [h1], by omega, ⟨hc, fun h => by simp at h⟩, fun hp => ⟨g, 0, rfl, hg, hgs, fun j hj => ?_⟩⟩
    have hz : zs[j]? = some zs[j] := List.getElem?_eq_getElem (by omega)
    obtain ⟨e1, ⟨⟨b1, p1, q1, _, s1⟩, _⟩, ⟨⟨b2, p2, q2, _, s2⟩, _⟩⟩ := h2 j _ hz
    obtain ⟨t0, t1, t2⟩ := cellsC_get zs j _ hz
    refine ⟨zs[j].2.1, zs[j].2.2, ?_, ?_, ?_, s1.mono p1 q1, s2.mono p2 q2⟩
    · rw [Nat.zero_add, h0.cellAt _ (by omega), t0, e1]
    · rw [Nat.zero_add, h0.cellAt _ (by omega), t1]
    · rw [Nat.zero_add, h0.cellAt _ (by omega), t2]
theorem RowD.short {B : Nat} {w : World} {o : Value} {c : List Lt} (h : RowD B w o c) : ∀ x ∈ c, x.2.1.length ≤ 400 ∧ x.2.2.length ≤ 400 := by
  obtain ⟨zs, ho, h1, h2⟩ := h
  intro x hx
  obtain ⟨j, hj, rfl⟩ := List.getElem_of_mem hx
  obtain ⟨_, ⟨_, a⟩, ⟨_, b⟩⟩ := h2 j zs[j] (List.getElem?_eq_getElem (by omega))
  rw [show c.getD j lt0 = c[j] from by simp [List.getD, hj]] at a b
  exact ⟨a, b⟩
theorem rows3_set (zs : List LV) (p : Bool) (u1 u2 v : Value) : (cellsC ((p, u1, u2) :: zs)).set 2 v = cellsC ((p, u1, v) :: zs) := rfl
/-- The first literal's left side becomes its right side too. -/
theorem RowD.first {B : Nat} {w : World} {g n k : Nat} {x : Lt} {c : List Lt} (h : RowD B w (.slice (some ⟨g, 0, none⟩) n k) (x :: c)) :
    ∃ u1 u2, w.cell? ⟨g, 0, none⟩ = some (.bool x.1) ∧ w.cell? ⟨g, 1, none⟩ = some u1 ∧ w.cell? ⟨g, 2, none⟩ = some u2 ∧ (∃ a m, u1 = .slice a x.2.1.length m) ∧ (∃ a m, u2 = .slice a x.2.2.length m) ∧ (∀ j, w.frozen? ⟨g, j, none⟩ = false) ∧
      RowD B (w.setCell ⟨g, 2, none⟩ u1) (.slice (some ⟨g, 0, none⟩) n k) ((x.1, x.2.1, x.2.1) :: c) := by
  obtain ⟨zs, ho, h1, h2⟩ := h
  obtain ⟨⟨p, u1, u2⟩, zs, rfl⟩ : ∃ z zs', zs = z :: zs' := by cases zs with | nil => simp at h1 | cons z zs => exact ⟨z, zs, rfl⟩
  obtain ⟨e1, t1, t2⟩ := h2 0 (p, u1, u2) rfl
  simp only [List.getD, List.getElem?_cons_zero, Option.getD_some] at e1 t1 t2
  obtain ⟨d0, d1, d2⟩ := cellsC_get ((p, u1, u2) :: zs) 0 _ rfl
  have hl3 : (0 : Nat) < ((p, u1, u2) :: zs).length := by simp
  have hn := row_len3 ho
  subst hn
  have k0 := ho.cellAt 0 (by simp only [List.length_cons]; omega)
  have k1 := ho.cellAt 1 (by simp only [List.length_cons]; omega)
  have k2 := ho.cellAt 2 (by simp only [List.length_cons]; omega)
  obtain ⟨a2, m2, f2⟩ := t2.form
  refine ⟨u1, u2, by rw [k0]; rw [← e1]; exact d0, by rw [k1]; exact d1, by rw [k2]; exact d2, t1.form, ⟨a2, m2, f2⟩, fun j => ho.frozenAt j, ?_⟩
  have hst := (ho.stored 2 u1).1
  rw [rows3_set] at hst
  have hs2 : w.cell? ⟨g, 2, none⟩ = some (.slice a2 x.2.2.length m2) := by rw [k2, ← f2]; exact d2
  have keep : ∀ v t, TD B w (.slice (some ⟨g, 0, none⟩) ((p, u1, u2) :: zs).length k) v t → TD B (w.setCell ⟨g, 2, none⟩ u1) (.slice (some ⟨g, 0, none⟩) ((p, u1, u2) :: zs).length k) v t := fun v t ht => by
    obtain ⟨⟨q, q1, q2, q3, q4⟩, q5⟩ := ht
    exact ⟨⟨q, q1, by rw [World.size_setCell]; exact q2, q3, Rl.slOther q4 hs2 (fun n => by simp) u1⟩, q5⟩
  refine ⟨(p, u1, u1) :: zs, hst, by simpa using h1, fun j z hz => ?_⟩
  cases j with
  | zero =>
    simp at hz; subst hz
    simp only [List.getD, List.getElem?_cons_zero, Option.getD_some]
    exact ⟨e1, keep _ _ t1, keep _ _ t1⟩
  | succ j =>
    obtain ⟨a1, a2, a3⟩ := h2 (j+1) z (by simpa using hz)
    simp only [List.getD, List.getElem?_cons_succ] at a1 a2 a3 ⊢
    exact ⟨a1, keep _ _ a2, keep _ _ a3⟩
end Go.Proofs.Ytlcjcihohclmhaa
end
section
/- A clause of the draws: what is known between two of its steps. -/
namespace Go.Proofs.Ytlcjcihohclmhaa
open Go.RowKit

theorem Rl.LF.mono {b n k d d' : Nat} {w0 w : World} (h : Rl.LF b n k d w0 w) (hd : d ≤ d') : Rl.LF b n k d' w0 w := by
  obtain ⟨k', h1, h2, h3⟩ := h
  exact ⟨k', h1, by omega, h3⟩
theorem Rl.LF.chg {b n k d : Nat} {w0 w : World} (h : Rl.LF b n k d w0 w) : Chg b (b+1) w0 w := by obtain ⟨_, _, _, _, h4⟩ := h; exact h4
/-- Between two steps: the row, the cursor, the signature's box. -/
structure CS (b n k d : Nat) (v : Value) (w w' : World) (o : Value) (c : List Lt) : Prop where
  row : RowD (w.heap.size + 1) w' o c
  cur : Rl.LF b n k d w w'
  box : w'.cell? ⟨w.heap.size, 0, none⟩ = some v
  big : w.heap.size + 1 ≤ w'.heap.size
  low : b < w.heap.size
theorem CS.start {b n k : Nat} {v : Value} {w : World} (hc : Cur b n k w) : CS b n k 0 v w (w.alloc (.cells #[v] 26)) (.slice none 0 0) [] :=
  ⟨RowD.nil _ _, ⟨k, Nat.le_refl _, by omega, hc.below (Bel.alloc0 _ _), Chg.of_bel (Bel.alloc0 _ _)⟩, by simp [go_sem], by simp, hc.lt⟩
theorem CS.mono {b n k d d' : Nat} {v : Value} {w w' : World} {o : Value} {c : List Lt} (h : CS b n k d v w w' o c) (hd : d ≤ d') : CS b n k d' v w w' o c := ⟨h.row, h.cur.mono hd, h.box, h.big, h.low⟩
/-- The cursor goes on. -/
theorem CS.step {b n k d d' : Nat} {v : Value} {w w1 w2 : World} {o : Value} {c : List Lt} (h : CS b n k d v w w1 o c) {k1 k2 : Nat} (a1 : k ≤ k1) (a2 : k1 ≤ k + d) (a3 : k1 ≤ k2) (a4 : k2 ≤ k1 + d') (hc : Cur b n k2 w2) (hg : Chg b (b+1) w1 w2) : CS b n k (d + d') v w w2 o c :=
  ⟨h.row.chg hg (by have := h.low; omega), ⟨k2, by omega, by omega, hc, h.cur.chg.trans hg⟩, hg.cell (by have := h.big; omega) (.inr (by have := h.low; omega)) h.box, Nat.le_trans h.big hg.size, h.low⟩
theorem CS.bel {b n k d : Nat} {v : Value} {w w1 w2 : World} {o : Value} {c : List Lt} (h : CS b n k d v w w1 o c) (hb : Bel w1 w2) : CS b n k d v w w2 o c := by
  refine ⟨h.row.bel hb, ?_, hb.at (by have := h.big; omega) h.box, Nat.le_trans h.big hb.size, h.low⟩
  obtain ⟨k', h1, h2, h3, h4⟩ := h.cur
  exact ⟨k', h1, h2, h3.below hb, h4.trans (Chg.of_bel hb)⟩
/-- One literal more: what the append asks for and what it gives. -/
theorem CS.append {b n k d : Nat} {v : Value} {w w1 : World} {o : Value} {c : List Lt} (h : CS b n k d v w w1 o c) (p : Bool) {v1 v2 : Value} {t1 t2 : List Int} (h1 : TD (w.heap.size + 1) w1 o v1 t1) (h2 : TD (w.heap.size + 1) w1 o v2 t2) (ob : Obj) :
    ∃ zs : List LV, RowC (w.heap.size + 1) (w1.alloc ob) o zs ∧ zs.length = c.length ∧ w.heap.size + 1 ≤ (w1.alloc ob).heap.size ∧
      ∀ w4 o', RowC (w.heap.size + 1) w4 o' (zs ++ [(p, v1, v2)]) → (w1.alloc ob).grownBy w4 o.ownBlock → (o'.ownBlock = o.ownBlock ∨ o'.ownBlock = some (w1.alloc ob).heap.size) → CS b n k d v w w4 o' (c ++ [(p, t1, t2)]) := by
  have hb := Bel.alloc0 w1 ob
  have hB := h.bel hb
  have hlt := hB.row.lt
  have hlow := h.low
  obtain ⟨zs, r1, r2, r3⟩ := hB.row
  refine ⟨zs, r1, r2, hB.big, fun w4 o' hn hg ho => ⟨?_, ?_, ?_, Nat.le_trans hB.big hg.size, h.low⟩⟩
  · exact RowD.snoc r2 r3 ⟨rfl, h1.bel hb, h2.bel hb⟩ hn hg ho
  · obtain ⟨k', a1, a2, a3, a4⟩ := hB.cur
    have hgg : Chg (w.heap.size + 1) (w4.heap.size + 1) (w1.alloc ob) w4 := ⟨hg.os, hg.tape, hg.output, hg.size, fun i hi hq => hg.block i hi (fun e => by have := hlt i e.symm; have := hg.size; omega)⟩
    exact ⟨k', a1, a2, a3.chg hgg (by omega), a4.news hgg (by omega)⟩
  · have hbg := hB.big
    exact (World.cell?_of_block (w := w1.alloc ob) (w' := w4) (a := ⟨w.heap.size, 0, none⟩) (hg.block w.heap.size (by omega) (fun e => by have := (hlt _ e.symm).1; omega))).trans hB.box
/-- A drawn literal's terms, beside the row. -/
theorem CS.lit {b n k d : Nat} {v : Value} {w w1 w2 : World} {o : Value} {c : List Lt} (h : CS b n k d v w w1 o c) {v1 : Value} {t1 : List Int} (h1 : Rl.TF w1 w2 v1 t1) : TD (w.heap.size + 1) w2 o v1 t1 :=
  TD.of h1 h.big (fun g e => (h.row.lt g e).2)
end Go.Proofs.Ytlcjcihohclmhaa
end
section
/- A clause of the draws. -/
namespace Go.Proofs.Ytlcjcihohclmhaa
open Go.RowKit

theorem row_lit {B : Nat} {w : World} {o' : Value} {zs : List LV} {p : Bool} {x y : Value} {n : Nat} (hn : n = zs.length) (h : w.ownsRow B 60 3 o' (n + 1) (cellsC zs ++ [.bool p, x, y])) : RowC B w o' (zs ++ [(p, x, y)]) := by
  subst hn
  have e : cellsC (zs ++ [(p, x, y)]) = cellsC zs ++ [.bool p, x, y] := by rw [cellsC_app]; rfl
  show World.ownsRow _ _ _ _ _ _ _
  rw [e]
  simpa using h
def lenV : Value → Nat
  | .slice _ n _ => n
  | _ => 0
/-- A clause of the draws, of new blocks. -/
def RetCl (b n k d : Nat) (w : World) (e : Ending) (w' : World) : Prop :=
  ∃ (o : Value) (c : List Lt), e = .returned o ∧ SlC (w.heap.size + 1) w'.heap.size w' o c ∧ c.length ≤ 9 ∧ (∀ x ∈ c, x.2.1.length ≤ 400 ∧ x.2.2.length ≤ 400) ∧ Rl.LF b n k d w w'

set_option maxRecDepth 100000 in
set_option maxHeartbeats 2000000 in
theorem clause_c (b n k lo hi : Nat) (v : Value) (ar : List Int) (w : World) (hn : n ≤ 1099511627776) (hk : k ≤ 100000000000) (hdr : drawn ar) (hblo : b < lo) (hc : Cur b n k w) (hv : SlI lo hi w v ar) :
    Calls Try.prog 54 #[.pointer (some ⟨b, 0, none⟩), .agg #[v]] w (RetCl b n k 200000 w) := by
  obtain ⟨i0, hi0, hz0, hz1, hz2⟩ := info_parts Try.info60
  have hbl := hc.lt
  have hB := Bel.alloc2 w (.cells #[v] 26) (.cells #[.int .i64 0, .int .i64 1, .int .i64 1, .int .i64 1, .int .i64 2, .int .i64 2, .int .i64 3] 3)
  have hc0 := hc.below hB
  have hS : SlI (w.heap.size + 1) (w.heap.size + 2) ((w.alloc (.cells #[v] 26)).alloc (.cells #[.int .i64 0, .int .i64 1, .int .i64 1, .int .i64 1, .int .i64 2, .int .i64 2, .int .i64 3] 3)) (.slice (some ⟨w.heap.size + 1, 0, none⟩) 7 7) [0, 1, 1, 1, 2, 2, 3] := SlI.arr (xs := [0, 1, 1, 1, 2, 2, 3]) rfl (by simp) (by simp) (Nat.le_refl _) (Nat.lt_succ_self _)
  have HA := Lib.hid (among_c b n k _ _ _ [0, 1, 1, 1, 2, 2, 3] _ hn (by omega) (by simp) (by simp) (by omega) hc0 hS)
  have hcs := (CS.start (b := b) (n := n) (k := k) (v := v) hc).bel (Bel.alloc0 _ (.cells #[.int .i64 0, .int .i64 1, .int .i64 1, .int .i64 1, .int .i64 2, .int .i64 2, .int .i64 3] 3))
  have HC0 := Lib.hid hcs
  clear hcs hS hc0 hc
  go_enter Try.func54, Try.ntmps54
  go_wp2_with fail
  refine HA.out.mono ?_; rintro e w1 ⟨z, k0, rfl, hz, g1, g2, g3, g4⟩
  have hz03 : 0 ≤ z ∧ z ≤ 3 := by simp at hz; omega
  clear hz HA
  have hcs1 := HC0.out.step (Nat.le_refl _) (Nat.le_refl _) g1 g2 g3 g4
  clear HC0 g3 g4
  obtain ⟨m0, rfl⟩ : ∃ m : Nat, z = (m : Int) := ⟨z.toNat, by omega⟩
  
  go_wp2_with fail
  go_loopw [5, 6] (fun o i wr => ∃ (j : Nat) (c : List Lt), i = .int .i64 j ∧ c.length + j ≤ 3 ∧ CS b n k (2 + 10000 * c.length) v w wr o c) (fun _ i _ => (intOf i).toNat)
  case atStart => exact ⟨m0, [], rfl, by simp; omega, hcs1.mono (by simp)⟩
  case round =>
    clear hcs1
    obtain ⟨j, c, rfl, hcj, hcs⟩ := hrel
    by_cases hj : 0 < j
    · have hd : decide ((0 : Int) < j) = true := by simpa using hj
      obtain ⟨k1, f1, f2, f3, f4⟩ := hcs.cur
      obtain ⟨ad, kk, rfl⟩ := hcs.row.form
      have hbxr := hcs.box
      have HL := Lib.hid (lit_c b n k1 lo hi v ar wr hn (by omega) hdr hblo f3 (hv.chg f4 (by omega)))
      have HCS := Lib.hid hcs
      clear hcs f3 f4 
      go_wp2_with fail
      refine HL.out.mono ?_; rintro e w2 ⟨p, v1, v2, t1, t2, rfl, T1, T2, k2, g1, g2, g3, g4⟩
      obtain ⟨a1, c1, rfl⟩ := Rl.TF.form T1
      obtain ⟨a2, c2, rfl⟩ := Rl.TF.form T2
      obtain ⟨zs, r1, r2, r3, hnext⟩ := (HCS.out.step f1 f2 g1 g2 g3 g4).append p (HCS.out.lit T1) (HCS.out.lit T2) (.cells #[.bool p, .slice a1 t1.length c1, .slice a2 t2.length c2] 60)
      have HN := Lib.hid hnext
      have HX := Lib.hid (And.intro T1 T2)
      clear hnext T1 T2 HL g3 g4 HCS
      have hzl : zs.length ≤ 20 := by omega
      go_wp2_with (at_builtin; refine wpList_append_own_at _ rfl _ _ 30 rfl (w.heap.size + 1) 60 i0 (.agg #[.bool false, .slice none 0 0, .slice none 0 0]) 3 56 Try.underlying30 hi0 hz0 hz1 hz2 rfl (by decide) _ _ _ rfl r1 _ _ _ [.bool p, .slice a1 t1.length c1, .slice a2 t2.length c2] rfl rfl (news_lit _ _ _ _ _ _ rfl) (one_lit _ _ _ _ _ _ _) (by unfold maxLen; omega) (by omega) r3 ?_; intro o' w4 hown' hgrow _ hat)
      have hcs4 := HN.out w4 o' (row_lit rfl hown') hgrow hat
      go_roundw
      case rel => exact ⟨j - 1, _, by simp; omega, by simp; omega, hcs4.mono (by simp; omega)⟩
      case measure => simp [intOf]; omega
    · have hd : decide ((0 : Int) < j) = false := by simp; omega
      clear hz03 hB
      have hc3 : c.length ≤ 3 := by omega
      obtain ⟨ad, kk, rfl⟩ := hcs.row.form
      go_upto_region 6 with fail
      go_cut [27] (fun s wx => ∃ q : Bool, s = .bool q ∧ (q = true → 0 < c.length) ∧ CS b n k 35000 v w wx (.slice ad c.length kk) c)
      case first =>
        by_cases hp : c.length = 0
        · have hd2 : decide ((0 : Int) < c.length) = false := decide_eq_false (by omega)
          go_wp2_with fail
          go_meet
          exact ⟨false, rfl, by simp, hcs.mono (by omega)⟩
        · have hd2 : decide ((0 : Int) < c.length) = true := decide_eq_true (by omega)
          obtain ⟨k1, f1, f2, f3, f4⟩ := hcs.cur
          have HO := Lib.hid (one_c b n k1 6 6 _ rfl hn (by omega) (by omega) f3)
          have HCS := Lib.hid hcs
          clear f3 f4
          go_wp2_with fail
          refine HO.out.mono ?_; rintro e w2 ⟨q, k2, rfl, g1, g2, g3, g4⟩
          have hcs2 := HCS.out.step f1 f2 g1 g2 g3 g4
          clear HO HCS g4
          go_wp2_with fail
          go_meet
          exact ⟨q, rfl, fun _ => by omega, hcs2.mono (by omega)⟩
      case rest =>
      obtain ⟨q, rfl, hq, hcs2⟩ := hcut
      clear hcs
      go_upto_if 27 with fail
      go_cut [5] (fun o wx => ∃ c2 : List Lt, c2.length ≤ 4 ∧ CS b n k 50000 v w wx o c2)
      case first =>
        cases q with
        | false =>
          go_wp2_with fail
          go_meet
          exact ⟨c, by omega, hcs2.mono (by omega)⟩
        | true =>
          have hpos := hq rfl
          obtain ⟨k2, f1, f2, f3, f4⟩ := hcs2.cur
          have HP := Lib.hid (pick_c b n k2 c.length c.length _ rfl hn (by omega) (by omega) f3)
          have HCS2 := Lib.hid hcs2
          clear f3 f4
          go_wp2_with fail
          refine HP.out.mono ?_; rintro e w3 ⟨x, k3, rfl, hx, g5, g6, g7, g8⟩
          have hx2 : x < c.length := by omega
          have hx3 : (x : Int) < c.length := by omega
          have hcs3 := HCS2.out.step f1 f2 g5 g6 g7 g8
          obtain ⟨zs0, r1, r2, r3⟩ := hcs3.row
          have hz0 : zs0[x]? = some (zs0[x]'(by omega)) := List.getElem?_eq_getElem (by omega)
          generalize zs0[x]'(by omega) = z0 at hz0
          obtain ⟨px, v1, v2⟩ := z0
          obtain ⟨e1, T1, T2⟩ := r3 x _ hz0
          obtain ⟨d0, d1, d2⟩ := cellsC_get zs0 x _ hz0
          obtain ⟨a1, m1, f5⟩ := T1.form
          obtain ⟨a2, m2, f6⟩ := T2.form
          simp only at e1 T1 T2 d0 d1 d2 f5 f6
          generalize hl1 : (c.getD x lt0).2.1 = l1 at *
          generalize hl2 : (c.getD x lt0).2.2 = l2 at *
          generalize hn1 : l1.length = n1 at *
          generalize hn2 : l2.length = n2 at *
          subst f5 f6
          obtain ⟨bb, rfl, q0, q1, q2⟩ : ∃ bb, ad = some ⟨bb, 0, none⟩ ∧ w3.cell? ⟨bb, x * 3, none⟩ = some (.bool px) ∧ w3.cell? ⟨bb, x * 3 + 1, none⟩ = some (.slice a1 n1 m1) ∧ w3.cell? ⟨bb, x * 3 + 2, none⟩ = some (.slice a2 n2 m2) := by
            rcases r1.2 with ⟨_, hn0⟩ | ⟨g, cap, cur, e2, _⟩
            · omega
            · simp only [Value.slice.injEq] at e2
              obtain ⟨rfl, -, rfl⟩ := e2
              refine ⟨g, rfl, ?_, ?_, ?_⟩
              · rw [r2.symm] at r1; rw [r1.cellAt _ (by omega)]; exact d0
              · rw [r2.symm] at r1; rw [r1.cellAt _ (by omega)]; exact d1
              · rw [r2.symm] at r1; rw [r1.cellAt _ (by omega)]; exact d2
          have BX := (Bel.alloc0 w3 (.cells #[.bool px, .slice a1 n1 m1, .slice a2 n2 m2] 60)).drew
          have hcsX := hcs3.bel BX
          have TX1 := T1.bel BX
          have TX2 := T2.bel BX
          have HFX := Lib.hid (fun (w' : World) (hg : Chg b (b+1) (w3.alloc (.cells #[.bool px, .slice a1 n1 m1, .slice a2 n2 m2] 60)).drew w') => (⟨hg.cell (by simp) (.inr (by have := hcs3.big; omega)) (boxc (Bel.drew0 _) 0 _ rfl), hg.cell (by simp) (.inr (by have := hcs3.big; omega)) (boxc (Bel.drew0 _) 1 _ rfl), hg.cell (by simp) (.inr (by have := hcs3.big; omega)) (boxc (Bel.drew0 _) 2 _ rfl)⟩ : (w'.cell? ⟨w3.heap.size, 0, none⟩ = some (.bool px) ∧ w'.cell? ⟨w3.heap.size, 1, none⟩ = some (.slice a1 n1 m1) ∧ w'.cell? ⟨w3.heap.size, 2, none⟩ = some (.slice a2 n2 m2))))
          have hX0 := HFX.out _ (Chg.refl _ _ _)
          obtain ⟨k4, f1', f2', f3', f4'⟩ := hcsX.cur
          have HO := Lib.hid (one_c b n k4 3 3 _ rfl hn (by omega) (by omega) f3')
          have HCX := Lib.hid (And.intro hcsX (And.intro TX1 TX2))
          have HNE : w3.heap.size ≠ bb := by have := (hcs3.row.lt bb rfl).2; omega
          have hb1 : b < w.heap.size + 1 := by omega
          clear e1
          have hc19 : c.length ≤ 19 := by omega
          clear hcsX TX1 TX2 f3' f4' T1 T2 hcs3 r1 r3 d0 d1 d2 hcs2 HCS2 HP hz0 g7 g8
          go_wp2_with fail
          go_region_held_law (fun w' => w'.cell? ⟨w3.heap.size, 0, none⟩ = some (.bool px) ∧ w'.cell? ⟨w3.heap.size, 1, none⟩ = some (.slice a1 n1 m1) ∧ w'.cell? ⟨w3.heap.size, 2, none⟩ = some (.slice a2 n2 m2))
            (first | exact hX7 | exact hX6 | exact hX5 | exact hX0 | fail)
            (first
              | (go_at_call 67; refine HO.out.mono ?_; rintro e w5 ⟨q2, k5, rfl, g5', g6', g7', g8'⟩; obtain ⟨zs, y1, y2, y3, hnx⟩ := (HCX.out.1.step f1' f2' g5' g6' g7' g8').append (px != q2) (HCX.out.2.2.chg g8' hb1) (HCX.out.2.1.chg g8' hb1) (.cells #[.bool (px != q2), .slice a2 n2 m2, .slice a1 n1 m1] 60); have HN := Lib.hid hnx; clear hnx; have hX5 := HFX.out _ g8'; have hX6 := (And.intro ((Bel.alloc0 w5 (.cells #[.bool (px != q2), .slice a2 n2 m2, .slice a1 n1 m1] 60)).at (World.block_lt_of_cell? _ ⟨_, _, none⟩ hX5.1) hX5.1) (And.intro ((Bel.alloc0 w5 (.cells #[.bool (px != q2), .slice a2 n2 m2, .slice a1 n1 m1] 60)).at (World.block_lt_of_cell? _ ⟨_, _, none⟩ hX5.1) hX5.2.1) ((Bel.alloc0 w5 (.cells #[.bool (px != q2), .slice a2 n2 m2, .slice a1 n1 m1] 60)).at (World.block_lt_of_cell? _ ⟨_, _, none⟩ hX5.1) hX5.2.2))))
              | (refine step_append_litO rfl (.tmp 35) (.tmp 46) 47 rfl rfl (w.heap.size + 1) _ zs rfl y1 w5.heap.size (px != q2) (a2, n2, m2) (a1, n1, m1) rfl (news_lit _ _ _ _ _ _ rfl) (by omega) y3 ?_; intro bo ko w6 R6 hg6 hat6; have hcs7 := HN.out w6 _ R6 hg6 hat6; have hX7 := And.intro (hg6.cell hX6.1 (fun e => HNE (Option.some.inj e))) (And.intro (hg6.cell hX6.2.1 (fun e => HNE (Option.some.inj e))) (hg6.cell hX6.2.2 (fun e => HNE (Option.some.inj e)))))
              | fail)
          all_goals
            go_wp2_with fail
            go_meet
            refine ⟨c ++ [(px != q2, l2, l1)], by simp; omega, ?_⟩
            rw [y2] at hcs7; exact hcs7.mono (by omega)
      case rest =>
      obtain ⟨c2, hc2, hcs4⟩ := hcut
      clear hcs2 hq hcj hj hd hc3
      obtain ⟨ad2, kk2, rfl⟩ := hcs4.row.form
      go_upto_region 9 with fail
      go_cut [54] (fun s wx => ∃ q : Bool, s = .bool q ∧ (q = true → 0 < c2.length) ∧ CS b n k 50010 v w wx (.slice ad2 c2.length kk2) c2)
      case first =>
        by_cases hp : c2.length = 0
        · have hd2 : decide ((0 : Int) < c2.length) = false := decide_eq_false (by omega)
          go_wp2_with fail
          go_meet
          exact ⟨false, rfl, by simp, hcs4.mono (by omega)⟩
        · have hd2 : decide ((0 : Int) < c2.length) = true := decide_eq_true (by omega)
          obtain ⟨k1, f1, f2, f3, f4⟩ := hcs4.cur
          have HO := Lib.hid (one_c b n k1 12 12 _ rfl hn (by omega) (by omega) f3)
          have HCS := Lib.hid hcs4
          clear f3 f4
          go_wp2_with fail
          refine HO.out.mono ?_; rintro e w2 ⟨q, k2, rfl, g1, g2, g3, g4⟩
          have hcs2 := HCS.out.step f1 f2 g1 g2 g3 g4
          clear HO HCS g4
          go_wp2_with fail
          go_meet
          exact ⟨q, rfl, fun _ => by omega, hcs2.mono (by omega)⟩
      case rest =>
      obtain ⟨q, rfl, hq, hcs5⟩ := hcut
      clear hcs4
      go_upto_if 54 with fail
      go_cut [] (fun wx => ∃ c3 : List Lt, c3.length = c2.length ∧ CS b n k 50010 v w wx (.slice ad2 c2.length kk2) c3)
      case first =>
        cases q with
        | false =>
          go_wp2_with fail
          go_meet
          exact ⟨c2, rfl, hcs5⟩
        | true =>
          have hpos := hq rfl
          clear hq
          cases c2 with
          | nil => simp at hpos
          | cons x c4 =>
            obtain ⟨bb, rfl⟩ : ∃ bb, ad2 = some ⟨bb, 0, none⟩ := by
              obtain ⟨zs0, r1, r2, r3⟩ := hcs5.row
              rcases r1.2 with ⟨_, hn0⟩ | ⟨g, cap, cur, e2, _⟩
              · simp at r2; omega
              · simp only [Value.slice.injEq] at e2
                exact ⟨g, e2.1⟩
            have hlt := hcs5.row.lt bb rfl
            obtain ⟨u1, u2, q0, q1, q2, ⟨a1, m1, rfl⟩, ⟨a2, m2, rfl⟩, hfz, hrow⟩ := hcs5.row.first
            have hlow := hcs5.low
            have hN : CS b n k 50010 v w _ _ _ := ⟨hrow, hcs5.cur.set (p := ⟨bb, 2, none⟩) (by show w.heap.size ≤ bb; omega) hlow _, by rw [World.cell?_setCell_other (h := by intro hh; simp at hh)]; exact hcs5.box, by rw [World.size_setCell]; exact hcs5.big, hlow⟩
            have HN := Lib.hid hN
            have hf2 := hfz 2
            have hp2 : (0 : Int) < (x :: c4).length := by omega
            clear hrow hN
            go_wp2_with fail
            go_meet
            exact ⟨(x.1, x.2.1, x.2.1) :: c4, by simp, HN.out⟩
      case rest =>
      obtain ⟨c3, hc3, hcs6⟩ := hcut
      have hc4 : c3.length ≤ 4 := by omega
      clear hcs5 hq
      obtain ⟨k1, f1, f2, f3, f4⟩ := hcs6.cur
      have HO := Lib.hid (pick_c b n k1 60 60 _ rfl hn (by omega) (by omega) f3)
      have HCS := Lib.hid hcs6
      clear f3 f4 hcs6
      go_wp2_with fail
      refine HO.out.mono ?_; rintro e w7 ⟨y, k2, rfl, hy, g1, g2, g3, g4⟩
      have hcs7 := HCS.out.step f1 f2 g1 g2 g3 g4
      clear HO HCS g3 g4 hy
      by_cases y0 : y = 0
      · subst y0
        go_wp2_with fail
        go_loopw [5] (fun o wr => ∃ c4 : List Lt, c4.length ≤ 9 ∧ CS b n k (60000 + 10000 * c4.length) v w wr o c4) (fun o _ => 9 - lenV o)
        case atStart => exact ⟨c3, by omega, hcs7.mono (by omega)⟩
        case round =>
          clear hcs7
          obtain ⟨c4, hc9, hcs8⟩ := hrel
          obtain ⟨ad4, kk4, rfl⟩ := hcs8.row.form
          obtain ⟨k3, f1, f2, f3, f4⟩ := hcs8.cur
          have HO := Lib.hid (pick_c b n k3 2 2 _ rfl hn (by omega) (by omega) f3)
          have HCS := Lib.hid hcs8
          clear f3 f4 hcs8
          go_wp2_with fail
          refine HO.out.mono ?_; rintro e w8 ⟨x2, k4, rfl, hx2, g1, g2, g3, g4⟩
          have hcs9 := HCS.out.step f1 f2 g1 g2 g3 g4
          clear HO HCS g3 g4
          have hw8 := IntWalk.i64_in (8 + (x2 : Int)) (by omega)
          by_cases hlt : c4.length < 8 + x2
          · have hd : decide ((c4.length : Int) < 8 + (x2 : Int)) = true := decide_eq_true (by omega)
            obtain ⟨k1, f1, f2, f3, f4⟩ := hcs9.cur
            skip
            have hbxr := hcs9.box
            have HL := Lib.hid (lit_c b n k1 lo hi v ar w8 hn (by omega) hdr hblo f3 (hv.chg f4 (by omega)))
            have HCS := Lib.hid hcs9
            clear hcs9 f3 f4 
            go_wp2_with fail
            refine HL.out.mono ?_; rintro e w2 ⟨p, v1, v2, t1, t2, rfl, T1, T2, k2, g1, g2, g3, g4⟩
            obtain ⟨a1, c1, rfl⟩ := Rl.TF.form T1
            obtain ⟨a2, c2, rfl⟩ := Rl.TF.form T2
            obtain ⟨zs, r1, r2, r3, hnext⟩ := (HCS.out.step f1 f2 g1 g2 g3 g4).append p (HCS.out.lit T1) (HCS.out.lit T2) (.cells #[.bool p, .slice a1 t1.length c1, .slice a2 t2.length c2] 60)
            have HN := Lib.hid hnext
            have HX := Lib.hid (And.intro T1 T2)
            clear hnext T1 T2 HL g3 g4 HCS
            have hzl : zs.length ≤ 20 := by omega
            go_wp2_with (at_builtin; refine wpList_append_own_at _ rfl _ _ 30 rfl (w.heap.size + 1) 60 i0 (.agg #[.bool false, .slice none 0 0, .slice none 0 0]) 3 56 Try.underlying30 hi0 hz0 hz1 hz2 rfl (by decide) _ _ _ rfl r1 _ _ _ [.bool p, .slice a1 t1.length c1, .slice a2 t2.length c2] rfl rfl (news_lit _ _ _ _ _ _ rfl) (one_lit _ _ _ _ _ _ _) (by unfold maxLen; omega) (by omega) r3 ?_; intro o' w4 hown' hgrow _ hat)
            have hcs4 := HN.out w4 o' (row_lit rfl hown') hgrow hat
            obtain ⟨ao, ko, eo⟩ := hcs4.row.form
            go_roundw
            case rel => exact ⟨_, by simp; omega, hcs4.mono (by simp; omega)⟩
            case measure => subst eo; simp [lenV]; omega
          · have hd : decide ((c4.length : Int) < 8 + (x2 : Int)) = false := decide_eq_false (by omega)
            go_wp2_with fail
            go_ret
            exact ⟨_, c4, rfl, hcs9.row.slc, hc9, hcs9.row.short, hcs9.cur.mono (by omega)⟩
      · by_cases y1 : y = 1
        · subst y1
          have hz7 := hcs7.big
          have BA := Bel.alloc0 w7 (.cells #[.int .i64 0] 3)
          have hcs8 := hcs7.bel BA
          have hltR := hcs7.row.lt
          have T0 : TD (w.heap.size + 1) (w7.alloc (.cells #[.int .i64 0] 3)) (.slice ad2 c2.length kk2) (.slice (some ⟨w7.heap.size, 0, none⟩) 1 1) [0] := ⟨⟨w7.heap.size, hz7, by simp, fun e => by have := (hltR _ e).2; omega, SlI.arr (xs := [0]) rfl rfl (by simp) (Nat.le_refl _) (Nat.lt_succ_self _)⟩, by simp⟩
          have T1 : TD (w.heap.size + 1) (w7.alloc (.cells #[.int .i64 0] 3)) (.slice ad2 c2.length kk2) (.slice none 0 0) [] := ⟨⟨w7.heap.size, hz7, by simp, fun e => by have := (hltR _ e).2; omega, SlI.nil _ _ _⟩, by simp⟩
          obtain ⟨zs, r1, r2, r3, hnext⟩ := hcs8.append false T0 T1 (.cells #[.bool false, .slice (some ⟨w7.heap.size, 0, none⟩) 1 1, .slice none 0 0] 60)
          have HN := Lib.hid hnext
          clear hnext T0 T1 hcs8 hcs7 hltR
          have hzl : zs.length ≤ 20 := by omega
          go_wp2_with (at_builtin; refine wpList_append_own_at _ rfl _ _ 30 rfl (w.heap.size + 1) 60 i0 (.agg #[.bool false, .slice none 0 0, .slice none 0 0]) 3 56 Try.underlying30 hi0 hz0 hz1 hz2 rfl (by decide) _ _ _ rfl r1 _ _ _ [.bool false, .slice (some ⟨w7.heap.size, 0, none⟩) 1 1, .slice none 0 0] rfl rfl (news_lit _ _ _ _ _ _ (by simp)) (one_lit _ _ _ _ _ _ _) (by unfold maxLen; omega) (by omega) r3 ?_; intro o' w4 hown' hgrow _ hat)
          have hcs9 := HN.out w4 o' (row_lit rfl hown') hgrow hat
          go_ret
          exact ⟨_, c3 ++ [(false, [0], [])], rfl, hcs9.row.slc, by simp; omega, hcs9.row.short, hcs9.cur.mono (by omega)⟩
        · have y0' : ¬ ((y : Int) = 0) := by omega
          have y1' : ¬ ((y : Int) = 1) := by omega
          go_wp2_with fail
          go_ret
          exact ⟨_, c3, rfl, hcs7.row.slc, by omega, hcs7.row.short, hcs7.cur.mono (by omega)⟩
end Go.Proofs.Ytlcjcihohclmhaa
end
section
/- Rows of slices' headers of drawn clauses, grown by append. -/
namespace Go.Proofs.Ytlcjcihohclmhaa
open Go.RowKit

/-- A row of headers whose clauses lie in ranges beside the row's own block. -/
def RowCl (base : Nat) (w : World) (v : Value) (cs : List (List Lt)) : Prop :=
  ∃ (us : List Value) (bs : Nat → Nat × Nat), w.ownsRow base 30 1 v cs.length us ∧ us.length = cs.length ∧
    ∀ j u, us[j]? = some u → base ≤ (bs j).1 ∧ (bs j).2 ≤ w.heap.size ∧ SlC (bs j).1 (bs j).2 w u (cs.getD j []) ∧ ∀ g, v.ownBlock = some g → g < (bs j).1 ∨ (bs j).2 ≤ g
theorem RowCl.nil (base : Nat) (w : World) : RowCl base w (.slice none 0 0) [] := ⟨[], fun _ => (0, 0), World.ownsRow_nil _ _ _ _, rfl, fun j u h => by simp at h⟩
theorem RowCl.form {base : Nat} {w : World} {v : Value} {cs : List (List Lt)} (h : RowCl base w v cs) : ∃ ad c, v = .slice ad cs.length c := by
  obtain ⟨us, bs, ho, _, _⟩ := h
  exact own_formq ho
theorem RowCl.bel {base : Nat} {w w' : World} {v : Value} {cs : List (List Lt)} (h : RowCl base w v cs) (hb : Bel w w') : RowCl base w' v cs := by
  obtain ⟨us, bs, ho, hl, hx⟩ := h
  refine ⟨us, bs, ownsRow_bel ho hb, hl, fun j u hj => ?_⟩
  obtain ⟨a1, a2, a3, a4⟩ := hx j u hj
  exact ⟨a1, Nat.le_trans a2 hb.size, a3.below hb, a4⟩
theorem RowCl.chg {base b : Nat} {w w' : World} {v : Value} {cs : List (List Lt)} (h : RowCl base w v cs) (hb : Chg b (b+1) w w') (hbb : b < base) : RowCl base w' v cs := by
  obtain ⟨us, bs, ho, hl, hx⟩ := h
  have hlt := ho.lt
  refine ⟨us, bs, ownsRow_far ho hb (fun g e => .inr (by have := (hlt g e).1; omega)), hl, fun j u hj => ?_⟩
  obtain ⟨a1, a2, a3, a4⟩ := hx j u hj
  exact ⟨a1, Nat.le_trans a2 hb.size, a3.chg hb (by omega), a4⟩
theorem RowCl.sl {base : Nat} {w : World} {v : Value} {cs : List (List Lt)} (h : RowCl base w v cs) : SlCs base w.heap.size w v cs := by
  obtain ⟨us, bs, h1, h2, h3⟩ := h
  have h1' := h1
  obtain ⟨q1, q0 | ⟨g, cap, cur, e1, e2, hh, r1, r2, r3⟩⟩ := h1
  · obtain ⟨rfl, q3⟩ := q0
    exact ⟨none, 0, by rw [q3], by omega, ⟨Nat.zero_le _, fun _ => rfl⟩, fun hp => by omega⟩
  · subst e1
    refine ⟨some ⟨g, 0, none⟩, cap, rfl, r1, ⟨r2, fun h => by simp at h⟩, fun hp => ⟨g, 0, rfl, e2, (Array.getElem?_eq_some_iff.1 hh).1, fun j hj => ?_⟩⟩
    have hju : j < us.length := by rw [h2]; exact hj
    refine ⟨us[j], ?_, ?_⟩
    · rw [Nat.zero_add, h1'.cellAt j (by omega), List.getElem?_eq_getElem hju]
    · obtain ⟨a, b, c, d⟩ := h3 j _ (List.getElem?_eq_getElem hju)
      exact c.mono a b
theorem RowCl.step {base b : Nat} {w0 w1 w2 : World} {v u : Value} {cs : List (List Lt)} {c : List Lt} (h : RowCl base w0 v cs) (h1 : Chg b (b+1) w0 w1) (hbs : b < base) (h2 : Bel w1 w2) (ho : SlC w0.heap.size w1.heap.size w1 u c) (hbase : base ≤ w0.heap.size) :
    ∃ us : List Value, w2.ownsRow base 30 1 v cs.length us ∧ us.length = cs.length ∧ ∀ w3 v', w3.ownsRow base 30 1 v' (cs.length + 1) (us ++ [u]) → w2.grownBy w3 v.ownBlock → (v'.ownBlock = v.ownBlock ∨ v'.ownBlock = some w2.heap.size) → RowCl base w3 v' (cs ++ [c]) := by
  obtain ⟨us, bs, hw, hl, hi⟩ := h
  have hlt := hw.lt
  have hz1 := h1.size
  have hz2 := h2.size
  refine ⟨us, ownsRow_bel (ownsRow_far hw h1 (fun g e => .inr (by have := (hlt g e).1; omega))) h2, hl, fun w3 v' hown hg hat => ?_⟩
  have hz3 := hg.size
  refine ⟨us ++ [u], fun i => if i = us.length then (w0.heap.size, w1.heap.size) else bs i, by simpa using hown, by simp [hl], fun j x hj => ?_⟩
  by_cases hjl : j < us.length
  · rw [List.getElem?_append_left hjl] at hj
    obtain ⟨a1, a2, a3, a4⟩ := hi j x hj
    have e1 : (cs ++ [c]).getD j [] = cs.getD j [] := by
      simp only [List.getD_eq_getElem?_getD]
      rw [List.getElem?_append_left (by omega)]
    simp only
    rw [if_neg (by omega), e1]
    refine ⟨a1, by omega, ?_, fun g e => ?_⟩
    · refine ((a3.chg h1 (by omega)).below h2).same fun q q1 q2 q3 => hg.block q q3 fun e => ?_
      rcases a4 q e.symm with h9 | h9 <;> omega
    · rcases hat with e2 | e2
      · exact a4 g (by rw [← e2]; exact e)
      · rw [e] at e2; simp at e2; exact .inr (by omega)
  · have hje : j = us.length := by have := (List.getElem?_eq_some_iff.1 hj).1; simp at this; omega
    subst hje
    rw [List.getElem?_append_right (Nat.le_refl _), Nat.sub_self] at hj
    simp only [List.getElem?_cons_zero, Option.some.injEq] at hj
    subst hj
    have e1 : (cs ++ [c]).getD us.length [] = c := by rw [hl]; simp [List.getD]
    simp only
    rw [if_pos trivial, e1]
    refine ⟨hbase, by omega, ?_, fun g e => ?_⟩
    · refine (ho.below h2).same fun q q1 q2 q3 => hg.block q q3 fun e => ?_
      have := (hlt q e.symm).2
      omega
    · rcases hat with e2 | e2
      · rw [e] at e2; have := (hlt g e2.symm).2; exact .inl (by omega)
      · rw [e] at e2; simp at e2; exact .inr (by omega)
end Go.Proofs.Ytlcjcihohclmhaa
end
section
namespace Go.Proofs.Ytlcjcihohclmhaa
open Go.RowKit
theorem conv1 (W : World) (m : Nat) (n : Int) (hm : m = W.heap.size) :
    (convert 22 9 (.slice (some ⟨m, 0, none⟩) 1 1)).run Try.prog (W.alloc (.cells #[.int .u8 n] 5)) = .ok (.string ⟨#[UInt8.ofNat n.toNat]⟩) (W.alloc (.cells #[.int .u8 n] 5)) := by
  subst hm
  rw [run_convert_bytes_string _ 22 9 5 _ _ _ Try.underlying22 Try.underlying5 Try.underlying9]
  rw [run_bytesToString _ _ 1 1 [n] ?_]
  · rfl
  · simp [loadCells, go_sem]
end Go.Proofs.Ytlcjcihohclmhaa
end
section
/- TermText: both functions. -/
namespace Go.Proofs.Ytlcjcihohclmhaa
open Go.RowKit

def letter (x : Int) : UInt8 := if x < 0 then (65 + (-1 - x)).toNat.toUInt8 else (97 + x).toNat.toUInt8
def bytesS (l : List UInt8) : Value := .string ⟨l.toArray⟩

theorem cut12 : ∀ k : Nat, k < 12 → (ByteArray.mk #[65, 66, 67, 68, 69, 70, 71, 72, 73, 74, 75, 76]).extract (-1 - (-1 - (k : Int))).toNat (-(-1 - (k : Int))).toNat = ⟨#[letter (-1 - (k : Int))]⟩ := by decide +kernel
theorem cut10 : ∀ k : Nat, k < 10 → (ByteArray.mk #[97, 98, 99, 100, 101, 102, 103, 104, 105, 106]).extract k (k + 1) = ⟨#[letter (k : Int)]⟩ := by decide +kernel

def sepB (k : Nat) : UInt8 := if k = 0 then 40 else 44
def accT (g : Nat → List UInt8) (l : List Nat) : Nat → List UInt8
  | 0 => []
  | k + 1 => accT g l k ++ (sepB k :: g (l.getD k 0))
def textF (ar t : List Int) : Nat → Nat → List UInt8
  | 0, _ => []
  | f + 1, i => letter (t.getD i 0) :: (accT (textF ar t f) (argsOf ar t i) (argsOf ar t i).length ++ (if (argsOf ar t i).length = 0 then [] else [41]))
def textAt (ar t : List Int) (i : Nat) : List UInt8 := textF ar t (t.length - i) i

theorem accT_congr (g g' : Nat → List UInt8) (l : List Nat) (h : ∀ a ∈ l, g a = g' a) : ∀ k, k ≤ l.length → accT g l k = accT g' l k := by
  intro k
  induction k with
  | zero => intro _; rfl
  | succ k ih =>
    intro hk
    rw [accT, accT, ih (by omega), h (l.getD k 0) (by simp [List.getD, show k < l.length from by omega])]
theorem textF_fuel (ar t : List Int) (h : okTerm ar t = true) : ∀ (n i : Nat), i < t.length → t.length - i ≤ n → ∀ f, t.length - i ≤ f → textF ar t f i = textAt ar t i := by
  intro n
  induction n with
  | zero => intro i hi hn; omega
  | succ n ih =>
    intro i hi hn f hf
    obtain ⟨f, rfl⟩ : ∃ f', f = f' + 1 := ⟨f - 1, by omega⟩
    unfold textAt
    obtain ⟨g, hg⟩ : ∃ g, t.length - i = g + 1 := ⟨t.length - i - 1, by omega⟩
    rw [hg, textF, textF]
    congr 2
    refine accT_congr _ _ _ (fun a ha => ?_) _ (Nat.le_refl _)
    have hb := argsOf_bd ar t h i hi a ha
    rw [ih a hb.2 (by omega) f (by omega), ih a hb.2 (by omega) g (by omega)]
theorem textAt_eq (ar t : List Int) (h : okTerm ar t = true) (i : Nat) (hi : i < t.length) :
    textAt ar t i = letter (t.getD i 0) :: (accT (textAt ar t) (argsOf ar t i) (argsOf ar t i).length ++ (if (argsOf ar t i).length = 0 then [] else [41])) := by
  conv => lhs; unfold textAt
  obtain ⟨g, hg⟩ : ∃ g, t.length - i = g + 1 := ⟨t.length - i - 1, by omega⟩
  rw [hg, textF]
  congr 2
  refine accT_congr _ _ _ (fun a ha => ?_) _ (Nat.le_refl _)
  have hb := argsOf_bd ar t h i hi a ha
  exact textF_fuel ar t h t.length a hb.2 (by omega) g (by omega)

theorem accT_len (g : Nat → List UInt8) (l : List Nat) : ∀ k, k ≤ l.length → (accT g l k).length = ((l.take k).map fun a => (g a).length + 1).sum := by
  intro k
  induction k with
  | zero => intro _; rfl
  | succ k ih =>
    intro hk
    rw [accT, List.length_append, ih (by omega), List.take_succ_eq_append_getElem (by omega), List.map_append, List.sum_append]
    simp [List.getD, show k < l.length from by omega]
theorem sum_take_le (l : List Nat) (k : Nat) : (l.take k).sum ≤ l.sum := by
  conv => rhs; rw [← List.take_append_drop k l]
  rw [List.sum_append]; omega
theorem args_sum (ar t : List Int) (g : Nat → List UInt8) : ∀ (k p e : Nat), endGo ar (t.drop p) k p = some e → (∀ a ∈ argsGo ar t k p, ∀ q, endOf ar t a = some q → (g a).length + 1 ≤ 3 * (q - a)) → ((argsGo ar t k p).map fun a => (g a).length + 1).sum ≤ 3 * (e - p) := by
  intro k
  induction k with
  | zero => intro p e _ _; simp [argsGo]
  | succ k ih =>
    intro p e h hg
    obtain ⟨q, hq, hr, hpq, hqe⟩ := ends_step ar t p k e h
    rw [argsGo_succ hq] at hg ⊢
    have h1 := hg p (by simp) q hq
    have h2 := ih q e hr (fun a ha => hg a (by simp [ha]))
    simp only [List.map_cons, List.sum_cons]
    omega
theorem textAt_len (ar t : List Int) (h : okTerm ar t = true) : ∀ (n i : Nat), t.length - i ≤ n → i < t.length → ∀ q, endOf ar t i = some q → (textAt ar t i).length + 1 ≤ 3 * (q - i) := by
  intro n
  induction n with
  | zero => intro i hn hi; omega
  | succ n ih =>
    intro i hn hi q hq
    obtain ⟨e, h1, h2⟩ := good_args ar t h i hi
    have hs := good_sym ar t h i hi
    have he : e = q := by
      unfold endOf at hq
      rw [drop_cons t i hi, endGo_cons, if_pos hs, Nat.zero_add, h1] at hq
      simpa using hq
    subst he
    have hsum := args_sum ar t (textAt ar t) _ _ _ h1 (fun a ha q hq => ih a (by have := argsOf_bd ar t h i hi a ha; omega) (argsOf_bd ar t h i hi a ha).2 q hq)
    have hge := endGo_ge _ _ _ _ _ h1
    rw [textAt_eq ar t h i hi]
    simp only [List.length_cons, List.length_append]
    rw [accT_len _ _ _ (Nat.le_refl _), List.take_length]
    have e2 : argsOf ar t i = argsGo ar t (arOf ar (t.getD i 0)) (i + 1) := rfl
    rw [← e2] at hsum
    split <;> simp <;> omega
theorem textAt_le (ar t : List Int) (h : okTerm ar t = true) (i : Nat) (hi : i < t.length) : (textAt ar t i).length ≤ 120 := by
  obtain ⟨e, he, h1, h2⟩ := good_end ar t h i hi
  have := textAt_len ar t h t.length i (by omega) hi e he
  have := ((okTerm_iff ar t).1 h).2.1
  omega
theorem accT_le (g : Nat → List UInt8) (l : List Nat) (k n : Nat) (hk : k ≤ l.length) (h : (accT g l l.length).length ≤ n) : (accT g l k).length ≤ n := by
  rw [accT_len g l k hk]
  rw [accT_len g l _ (Nat.le_refl _), List.take_length] at h
  refine Nat.le_trans ?_ h
  rw [List.map_take]
  exact sum_take_le _ _
theorem acc_le (ar t : List Int) (h : okTerm ar t = true) (i : Nat) (hi : i < t.length) (k : Nat) (hk : k ≤ (argsOf ar t i).length) : (accT (textAt ar t) (argsOf ar t i) k).length ≤ 119 := by
  refine accT_le _ _ _ _ hk ?_
  have := textAt_le ar t h i hi
  rw [textAt_eq ar t h i hi] at this
  simp only [List.length_cons, List.length_append] at this
  omega

/-- A text. -/
def RetT (w : World) (l : List UInt8) (e : Ending) (w' : World) : Prop := ∃ A : ByteArray, e = .returned (.string A) ∧ A.data.toList = l ∧ Bel w w'
theorem ba_app (A B : ByteArray) : (A ++ B).data.toList = A.data.toList ++ B.data.toList := by rw [ByteArray.data_append, Array.toList_append]
theorem ba_size (A : ByteArray) : A.size = A.data.toList.length := by rw [Array.length_toList]; rfl
end Go.Proofs.Ytlcjcihohclmhaa
end
section
/- The draws: a spoilt text. -/
namespace Go.Proofs.Ytlcjcihohclmhaa
open Go.RowKit

def RetSP (b n k d m : Nat) (w : World) (e : Ending) (w' : World) : Prop :=
  ∃ (s : ByteArray) (k' : Nat), e = .returned (.string s) ∧ s.size ≤ m ∧ k ≤ k' ∧ k' ≤ k + d ∧ Cur b n k' w' ∧ Chg b (b+1) w w'

end Go.Proofs.Ytlcjcihohclmhaa
end
