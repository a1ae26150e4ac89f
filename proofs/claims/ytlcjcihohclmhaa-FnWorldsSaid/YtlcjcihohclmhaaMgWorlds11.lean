/- Texts merged, part 11. -/
import Derived.Test.YtlcjcihohclmhaaMgWorlds10
section
/- The draws of chapter 4: a signature and a clause. -/
namespace Go.Proofs.Ytlcjcihohclmhaa
open Go.RowKit

theorem SlC.setP {lo hi w v c} (h : SlC lo hi w v c) {p : Addr} (hp : p.block < lo ∨ hi ≤ p.block) (u : Value) : SlC lo hi (w.setCell p u) v c :=
  h.same fun b h1 h2 _ => Below.heap_setCell w p u b (by omega)
def fineC (c : List Lt) : Prop := c.length ≤ 9 ∧ ∀ x ∈ c, x.2.1.length ≤ 400 ∧ x.2.2.length ≤ 400
theorem fineC.sum {c : List Lt} (h : fineC c) : sumC c ≤ 100000 := by
  rw [sumC_eq]
  unfold lenC
  have h2 : ∀ t ∈ flatC c, t.length ≤ 400 := fun t ht => by
    obtain ⟨x, hx, e⟩ := flat_mem ht
    obtain ⟨a, b⟩ := h.2 x hx
    rcases e with rfl | rfl <;> omega
  have h3 : ∀ l : List (List Int), (∀ t ∈ l, t.length ≤ 400) → sumL l ≤ 400 * l.length := fun l => by
    induction l with
    | nil => intro _; simp [sumL]
    | cons t l ih =>
      intro hl
      have h1 := hl t (by simp)
      have h2 := ih fun x hx => hl x (List.mem_cons_of_mem _ hx)
      simp only [sumL, List.map_cons, List.sum_cons, List.length_cons] at *
      omega
  have := h3 _ h2
  rw [flatC_len] at this
  have := h.1
  omega
theorem textL_size {ar : List Int} {x : Lt} (h : okLit ar x = true) : (textL ar x).length ≤ 241 := by
  obtain ⟨o1, o2⟩ := okLit_iff.1 h
  have h1 := textAt_le ar x.2.1 o1 0 (by have := ((okTerm_iff _ _).1 o1).1; omega)
  have h2 := textAt_le ar x.2.2 o2 0 (by have := ((okTerm_iff _ _).1 o2).1; omega)
  unfold textL
  rw [List.length_append, List.length_cons]
  omega
theorem barsL_size {ar : List Int} : ∀ c : List Lt, (∀ x ∈ c, okLit ar x = true) → (barsL ar c).length ≤ 242 * c.length := by
  intro c
  induction c with
  | nil => intro _; simp [barsL]
  | cons x c ih =>
    intro h
    have h1 := textL_size (h x (by simp))
    have h2 := ih fun y hy => h y (List.mem_cons_of_mem _ hy)
    have e : barsL ar (x :: c) = 124 :: textL ar x ++ barsL ar c := by simp [barsL]
    rw [e, List.length_append, List.length_cons, List.length_cons]
    omega
theorem textC_size (ar : List Int) (c : List Lt) : (textClA ar c).size ≤ 3000 := by
  cases hg : goodClause ar c with
  | false => simp [textClA, hg]; decide
  | true =>
    obtain ⟨_, h8, hok⟩ := goodClause_iff.1 hg
    rw [textClA_yes hg, ba_size]
    cases c with
    | nil => simp [textC]
    | cons x c =>
      have h1 := textL_size (hok x (by simp))
      have h2 := barsL_size c fun y hy => hok y (List.mem_cons_of_mem _ hy)
      simp only [textC, List.length_append, List.length_cons] at *
      omega
def RetDCl (w : World) (e : Ending) (w' : World) : Prop :=
  ∃ (sv tv : Value) (ar : List Int) (c : List Lt), e = .returned (.tuple #[.agg #[sv], tv]) ∧ drawn ar ∧ SlI w.heap.size w'.heap.size w' sv ar ∧ SlC w.heap.size w'.heap.size w' tv c ∧ fineC c ∧ Bel w w'
def RetDSt (w : World) (e : Ending) (w' : World) : Prop :=
  ∃ (sv : Value) (ar : List Int) (s : ByteArray), e = .returned (.tuple #[.agg #[sv], .string s]) ∧ drawn ar ∧ SlI w.heap.size w'.heap.size w' sv ar ∧ s.size ≤ 4000 ∧ Bel w w'

end Go.Proofs.Ytlcjcihohclmhaa
end
section
/- The draws of sizes, small signs, clauses. -/
namespace Go.Proofs.Ytlcjcihohclmhaa
open Go.RowKit

set_option maxRecDepth 100000 in
set_option maxHeartbeats 400000 in
theorem size_c (b n k : Nat) (w : World) (hn : n ≤ 1099511627776) (hk : k ≤ 100000000000) (hc : Cur b n k w) :
    Calls Try.prog 38 #[.pointer (some ⟨b, 0, none⟩)] w (fun e w' => ∃ z : Nat, e = .returned (.int .i64 (z : Int)) ∧ z ≤ 4 ∧ Rl.LF b n k 2 w w') := by
  have hbl := hc.lt
  have hB := Bel.alloc0 w (.cells #[.int .i64 1, .int .i64 2, .int .i64 2, .int .i64 2, .int .i64 3, .int .i64 0, .int .i64 4] 3)
  have hS : SlI w.heap.size (w.heap.size + 1) (w.alloc (.cells #[.int .i64 1, .int .i64 2, .int .i64 2, .int .i64 2, .int .i64 3, .int .i64 0, .int .i64 4] 3)) (.slice (some ⟨w.heap.size, 0, none⟩) 7 7) [1, 2, 2, 2, 3, 0, 4] := SlI.arr (xs := [1, 2, 2, 2, 3, 0, 4]) rfl (by simp) (by simp) (Nat.le_refl _) (Nat.lt_succ_self _)
  have HA := Lib.hid (among_c b n k _ _ _ [1, 2, 2, 2, 3, 0, 4] _ hn (by omega) (by simp) (by simp) (by omega) (hc.below hB) hS)
  clear hS
  go_enter Try.func38, Try.ntmps38
  go_wp2_with fail
  refine HA.out.mono ?_; rintro e w1 ⟨z, k1, rfl, hz, h1, h2, h3, h4⟩
  obtain ⟨m, rfl, hm⟩ : ∃ m : Nat, z = (m : Int) ∧ m ≤ 4 := by
    simp at hz
    exact ⟨z.toNat, by omega, by omega⟩
  clear hz HA
  go_wp2_with fail
  go_ret
  exact ⟨m, rfl, hm, k1, h1, by omega, h3, (Chg.of_bel hB).trans h4⟩

set_option maxRecDepth 100000 in
set_option maxHeartbeats 1000000 in
theorem smallSign_c (b n k : Nat) (w : World) (hn : n ≤ 1099511627776) (hk : k ≤ 100000000000) (hc : Cur b n k w) :
    Calls Try.prog 36 #[.pointer (some ⟨b, 0, none⟩)] w (RetG b n k 4 w) := by
  have hbl := hc.lt
  have hB := Bel.alloc0 w (.cells #[.slice none 0 0] 26)
  have HO := Lib.hid (one_c b n k 12 12 _ rfl hn (by omega) (by omega) (hc.below hB))
  have hbx0 : (w.alloc (.cells #[.slice none 0 0] 26)).cell? ⟨w.heap.size, 0, none⟩ = some (.slice none 0 0) := by rw [World.cell?_alloc_new w]; rfl
  have hfx0 : (w.alloc (.cells #[.slice none 0 0] 26)).frozen? ⟨w.heap.size, 0, none⟩ = false := by simp [go_sem]; try rfl
  have hs0 : (w.alloc (.cells #[.slice none 0 0] 26)).heap.size = w.heap.size + 1 := by simp
  go_enter Try.func36, Try.ntmps36
  go_wp2_with fail
  refine HO.out.mono ?_; rintro e w1 ⟨q, k1, rfl, h1, h2, h3, h4⟩
  generalize (w.alloc (.cells #[.slice none 0 0] 26)) = W0 at *
  have hbx1 := h4.cell (b := w.heap.size) (by omega) (by omega) hbx0
  have hfx1 : w1.frozen? ⟨w.heap.size, 0, none⟩ = false := (World.frozen?_of_block (w := W0) (w' := w1) (a := ⟨w.heap.size, 0, none⟩) (h4.block w.heap.size (by omega) (by omega))).trans hfx0
  have hz1 := h4.size
  have hg1 := (Chg.of_bel (lo := b) (hi := b + 1) hB).trans h4
  clear HO hbx0 hfx0 hB
  cases q with
  | true =>
    have HS := Lib.hid (sign_c b n k1 w1 hn (by omega) h3)
    go_wp2_with fail
    refine HS.out.mono ?_; rintro e w2 ⟨sv, ar, k2, rfl, hdr, hsv, g1, g2, g3, g4⟩
    obtain ⟨sa, sc, rfl⟩ := hsv.form
    have hbx2 := g4.cell (b := w.heap.size) (by omega) (by omega) hbx1
    have hfx2 : w2.frozen? ⟨w.heap.size, 0, none⟩ = false := (World.frozen?_of_block (w := w1) (w' := w2) (a := ⟨w.heap.size, 0, none⟩) (g4.block w.heap.size (by omega) (by omega))).trans hfx1
    have hz2 := g4.size
    have hc0 : (w2.setCell ⟨w.heap.size, 0, none⟩ (.slice sa ar.length sc)).cell? ⟨w.heap.size, 0, none⟩ = some (.slice sa ar.length sc) := World.cell?_setCell_same _ _ _ hbx2
    have hsF := (hsv.set (p := ⟨w.heap.size, 0, none⟩) (.inl (by show w.heap.size < w1.heap.size; omega)) (.slice sa ar.length sc)).mono (show w.heap.size ≤ _ by omega) (show _ ≤ (w2.setCell ⟨w.heap.size, 0, none⟩ (.slice sa ar.length sc)).heap.size by simp)
    have hcF := g3.chg (Chg.set (lo := w.heap.size) (hi := w.heap.size + 1) (p := ⟨w.heap.size, 0, none⟩) w2 (Nat.le_refl _) (Nat.lt_succ_self _) (.slice sa ar.length sc)) (by omega)
    have hgF := (hg1.trans g4).setNew (p := ⟨w.heap.size, 0, none⟩) (Nat.le_refl _) (.slice sa ar.length sc)
    clear hsv g3 g4 HS
    go_wp2_with fail
    exact bodyPost_ret (v := .agg #[.slice sa ar.length sc]) (by simp [results, Try.results36, go_sem, hc0]) rfl ⟨_, ar, k2, rfl, hdr, hsF, by omega, by omega, hcF, hgF⟩
  | false =>
    have hBA := Bel.alloc0 w1 (.cells #[.int .i64 0, .int .i64 0, .int .i64 1, .int .i64 1] 3)
    have hxs : SlI w1.heap.size (w1.heap.size + 1) (w1.alloc (.cells #[.int .i64 0, .int .i64 0, .int .i64 1, .int .i64 1] 3)) (.slice (some ⟨w1.heap.size, 0, none⟩) 4 4) [0, 0, 1, 1] := SlI.arr (xs := [0, 0, 1, 1]) rfl (by simp) (by simp) (Nat.le_refl _) (Nat.lt_succ_self _)
    have hbx2 := hBA.at (b := w.heap.size) (by omega) hbx1
    have hfx2 := (World.frozen?_of_block (w := w1) (a := ⟨w.heap.size, 0, none⟩) (hBA.block w.heap.size (by omega))).trans hfx1
    have hc0 : ((w1.alloc (.cells #[.int .i64 0, .int .i64 0, .int .i64 1, .int .i64 1] 3)).setCell ⟨w.heap.size, 0, none⟩ (.slice (some ⟨w1.heap.size, 0, none⟩) 4 4)).cell? ⟨w.heap.size, 0, none⟩ = some (.slice (some ⟨w1.heap.size, 0, none⟩) 4 4) := World.cell?_setCell_same _ _ _ hbx2
    have hsF := (hxs.set (p := ⟨w.heap.size, 0, none⟩) (.inl (by show w.heap.size < w1.heap.size; omega)) (.slice (some ⟨w1.heap.size, 0, none⟩) 4 4)).mono (show w.heap.size ≤ _ by omega) (show _ ≤ ((w1.alloc (.cells #[.int .i64 0, .int .i64 0, .int .i64 1, .int .i64 1] 3)).setCell ⟨w.heap.size, 0, none⟩ (.slice (some ⟨w1.heap.size, 0, none⟩) 4 4)).heap.size by simp)
    have hcF := (h3.below hBA).chg (Chg.set (lo := w.heap.size) (hi := w.heap.size + 1) (p := ⟨w.heap.size, 0, none⟩) _ (Nat.le_refl _) (Nat.lt_succ_self _) (.slice (some ⟨w1.heap.size, 0, none⟩) 4 4)) (by omega)
    have hgF := (hg1.trans (Chg.of_bel hBA)).setNew (p := ⟨w.heap.size, 0, none⟩) (Nat.le_refl _) (.slice (some ⟨w1.heap.size, 0, none⟩) 4 4)
    clear h3 h4
    go_wp2_with fail
    exact bodyPost_ret (v := .agg #[.slice (some ⟨w1.heap.size, 0, none⟩) 4 4]) (by simp [results, Try.results36, go_sem, hc0]) rfl ⟨_, [0, 0, 1, 1], k1, rfl, by simp [drawn], hsF, by omega, by omega, hcF, hgF⟩

theorem litsInfoR : (Try.prog.info? 30).map (fun i => (i.zero, i.size, i.bytes)) = some (some (.slice none 0 0), 1, 24) := by kernel_rfl
theorem one_slc (a : Option Addr) (n c : Nat) : ∀ u ∈ [Value.slice a n c], u.oneCell' = true := by
  intro u hu; simp at hu; rcases hu with rfl; rfl
def RetDCs (b n k d : Nat) (w : World) (e : Ending) (w' : World) : Prop :=
  ∃ (ad : Option Addr) (c : Nat) (cs : List (List Lt)), e = .returned (.slice ad cs.length c) ∧ SlCs (w.heap.size + 1) w'.heap.size w' (.slice ad cs.length c) cs ∧ cs.length ≤ 3 ∧ (∀ x ∈ cs, fineC x) ∧ Rl.LF b n k d w w'
set_option maxRecDepth 100000 in
set_option maxHeartbeats 1000000 in
theorem clauses_c (b n k lo hi : Nat) (v : Value) (ar : List Int) (w : World) (hn : n ≤ 1099511627776) (hk : k ≤ 1000000000) (hdr : drawn ar) (hblo : b < lo) (hc : Cur b n k w) (hv : SlI lo hi w v ar) :
    Calls Try.prog 37 #[.pointer (some ⟨b, 0, none⟩), .agg #[v], .int .i64 3] w (RetDCs b n k 700000 w) := by
  obtain ⟨i1, hi1, hy0, hy1, hy2⟩ := info_parts litsInfoR
  have hbl := hc.lt
  have hB := Bel.alloc0 w (.cells #[v] 26)
  have HP := Lib.hid (pick_c b n k 4 4 _ rfl hn (by omega) (by omega) (hc.below hB))
  have hbx0 : (w.alloc (.cells #[v] 26)).cell? ⟨w.heap.size, 0, none⟩ = some v := by rw [World.cell?_alloc_new w]; rfl
  have hs0 : (w.alloc (.cells #[v] 26)).heap.size = w.heap.size + 1 := by simp
  go_enter Try.func37, Try.ntmps37
  go_wp2_with fail
  refine HP.out.mono ?_; rintro e w1 ⟨x, k1, rfl, hx, h1, h2, h3, h4⟩
  have hz1 := h4.size
  have hbx1 := h4.cell (b := w.heap.size) (by omega) (by omega) hbx0
  have hg1 := (Chg.of_bel (lo := b) (hi := b + 1) hB).trans h4
  have hL1 : Rl.LF b n k 2 w w1 := ⟨k1, h1, by omega, h3, hg1⟩
  have hx3 : x ≤ 3 := by omega
  have hz1b : w.heap.size + 1 ≤ w1.heap.size := by omega
  clear HP hbx0 h3 h4 hg1 hz1
  go_wp2_with fail
  go_loopw [7, 8] (fun o i wr => ∃ (j : Nat) (cs : List (List Lt)), j ≤ x ∧ i = .int .i64 j ∧ RowCl (w.heap.size + 1) wr o cs ∧ cs.length = x - j ∧ (∀ c ∈ cs, fineC c) ∧ wr.cell? ⟨w.heap.size, 0, none⟩ = some v ∧ w.heap.size + 1 ≤ wr.heap.size ∧ Rl.LF b n k (2 + 200000 * (x - j)) w wr) (fun _ i _ => (intOf i).toNat)
  case atStart => exact ⟨x, [], Nat.le_refl _, rfl, RowCl.nil _ _, by simp, fun c hc => by simp at hc, hbx1, hz1b, LF_mono hL1 (by omega)⟩
  case round =>
    obtain ⟨j, cs, hj, rfl, hrow, hlen, hfine, hbox, hbig, hlf⟩ := hrel
    by_cases hj0 : 0 < j
    · have hd : decide ((0 : Int) < j) = true := decide_eq_true (by omega)
      obtain ⟨k2, f1, f2, f3, f4⟩ := hlf
      have HC := Lib.hid (clause_c b n k2 lo hi v ar wr hn (by omega) hdr hblo f3 (hv.chg f4 (by omega)))
      have HLF : Hid (Rl.LF b n k (2 + 200000 * (x - j)) w wr) := ⟨k2, f1, f2, f3, f4⟩
      have HFN := Lib.hid hfine
      have HLN := Lib.hid hlen
      have HRW := Lib.hid hrow
      clear f3 f4 hfine hlen hrow
      go_wp2_with fail
      refine HC.out.mono ?_; rintro e w3 ⟨oT, tC, rfl, hT, hc9, hsh, k3, g1, g2, g3, g4⟩
      obtain ⟨aT, cT, rfl⟩ := hT.form
      have hlf3 := LF_step (d' := 200000) HLF.out f1 f2 g1 g2 g3 g4
      have hAl := Bel.alloc0 w3 (.cells #[.slice aT tC.length cT] 30)
      obtain ⟨oa, oc, ho⟩ := HRW.out.form
      subst ho
      obtain ⟨us, hown2, hul, hnext⟩ := HRW.out.step g4 (by omega) hAl (hT.mono (by omega) (Nat.le_refl _)) hbig
      have HN := Lib.hid hnext
      have hbox3 := g4.cell (b := w.heap.size) (by omega) (by omega) hbox
      have hob := own_base hown2
      have hz3 := g4.size
      have hz5 : w.heap.size + 1 ≤ (w3.alloc (.cells #[.slice aT tC.length cT] 30)).heap.size := by simp; omega
      have hcl3 : cs.length ≤ 3 := by have := HLN.out; omega
      have hff : fineC tC := ⟨hc9, hsh⟩
      have HFF := Lib.hid hff
      clear hnext HC g3 g4 hT hc9 hsh hbox hff
      generalize tC.length = nT at *
      go_wp2_with (at_builtin; refine wpList_append_own_at _ rfl _ _ 39 rfl (w.heap.size + 1) 30 i1 (.slice none 0 0) 1 24 (by kernel_rfl) hi1 hy0 hy1 hy2 rfl (by decide) _ _ _ rfl hown2 _ _ _ [.slice aT nT cT] rfl rfl (news_oneV _ _ _) (one_slc _ _ _) (by unfold maxLen; omega) (by omega) hz5 ?_; intro v' w4 hown' hgrow _ hat; have hRow4 := HN.out w4 v' hown' hgrow hat; have hbox4 : w4.cell? ⟨w.heap.size, 0, none⟩ = some v := hgrow.cell (hAl.at (b := w.heap.size) (by omega) hbox3) (fun e => by have := hob _ e.symm; simp at this; omega); have hlf4 := LF_grown (LF_bel hlf3 hAl) hgrow (fun q e => by have := hob q e; omega) hbl; have hz4 := hgrow.size)
      simp only [World.size_alloc] at hz4
      go_roundw
      case rel =>
        refine ⟨j - 1, cs ++ [tC], by omega, by simp; omega, hRow4, by have := HLN.out; simp; omega, fun c hc => ?_, hbox4, by omega, LF_mono hlf4 (by omega)⟩
        rcases List.mem_append.1 hc with h | h
        · exact HFN.out c h
        · simp at h; subst h; exact HFF.out
      case measure => simp [intOf]; omega
    · obtain rfl : j = 0 := by omega
      have hd : decide ((0 : Int) < 0) = false := by decide
      have hsl := hrow.sl
      obtain ⟨oa, oc, rfl⟩ := hrow.form
      have hcl : cs.length ≤ 3 := by omega
      have HLN := Lib.hid hlen
      clear hlen hrow
      go_wp2_with fail
      go_ret
      exact ⟨oa, oc, cs, rfl, hsl, hcl, hfine, LF_mono hlf (by omega)⟩
end Go.Proofs.Ytlcjcihohclmhaa
end
section
/- The draws of chapter 5 that FnWorlds takes. -/
namespace Go.Proofs.Ytlcjcihohclmhaa
open Go.RowKit

/-- The cells of the results, before they are stored. -/
structure WCel (N : Nat) (w : World) : Prop where
  s0 : w.cell? ⟨N, 0, none⟩ = some (.slice none 0 0)
  a0 : w.cell? ⟨N + 1, 0, none⟩ = some (.int .i64 0)
  a1 : w.cell? ⟨N + 1, 1, none⟩ = some (.slice none 0 0)
  fs : ∀ j, w.frozen? ⟨N, j, none⟩ = false
  fa : ∀ j, w.frozen? ⟨N + 1, j, none⟩ = false
theorem WCel.same {N : Nat} {w w' : World} (h : WCel N w) (hs : ∀ b, N ≤ b → b ≤ N + 1 → w'.heap[b]? = w.heap[b]?) : WCel N w' := by
  have c := fun (b j : Nat) (h1 : N ≤ b) (h2 : b ≤ N + 1) => World.cell?_of_block (w := w) (w' := w') (a := ⟨b, j, none⟩) (hs b h1 h2)
  have f := fun (b j : Nat) (h1 : N ≤ b) (h2 : b ≤ N + 1) => World.frozen?_of_block (w := w) (w' := w') (a := ⟨b, j, none⟩) (hs b h1 h2)
  exact ⟨(c N 0 (by omega) (by omega)).trans h.s0, (c _ 0 (by omega) (by omega)).trans h.a0, (c _ 1 (by omega) (by omega)).trans h.a1,
    fun j => (f _ j (by omega) (by omega)).trans (h.fs j), fun j => (f _ j (by omega) (by omega)).trans (h.fa j)⟩
theorem WCel.chg {N : Nat} {w w' : World} (h : WCel N w) (k : Chg (N+1+1) (N+1+1+1) w w') (hl : N + 2 ≤ w.heap.size) : WCel N w' := h.same fun b h1 h2 => k.block b (by omega) (by omega)
theorem WCel.bel {N : Nat} {w w' : World} (h : WCel N w) (k : Bel w w') (hl : N + 2 ≤ w.heap.size) : WCel N w' := h.same fun b h1 h2 => k.block b (by omega)
theorem slCs_same {lo hi : Nat} {w w' : World} {v : Value} {cs : List (List Lt)} (h : SlCs lo hi w v cs) (hs : ∀ b, lo ≤ b → b < hi → b < w.heap.size → w'.heap[b]? = w.heap[b]?) : SlCs lo hi w' v cs := by
  obtain ⟨ad, cap, rfl, hc, hm, hr⟩ := h
  refine ⟨ad, cap, rfl, hc, hm, fun hp => ?_⟩
  obtain ⟨b, off, e, a1, a2, a3⟩ := hr hp
  refine ⟨b, off, e, a1, a2, fun j hj => ?_⟩
  obtain ⟨u, h1, h2⟩ := a3 j hj
  exact ⟨u, cell_same (hs b a1 a2) h1, h2.same hs⟩
theorem slCs_mono {lo hi lo' hi' : Nat} {w : World} {v : Value} {cs : List (List Lt)} (h : SlCs lo hi w v cs) (h1 : lo' ≤ lo) (h2 : hi ≤ hi') : SlCs lo' hi' w v cs := by
  obtain ⟨ad, cap, rfl, hc, hm, hr⟩ := h
  refine ⟨ad, cap, rfl, hc, hm, fun hp => ?_⟩
  obtain ⟨b, off, e, a1, a2, a3⟩ := hr hp
  refine ⟨b, off, e, by omega, by omega, fun j hj => ?_⟩
  obtain ⟨u, h3, h4⟩ := a3 j hj
  exact ⟨u, h3, h4.mono h1 h2⟩
def RetDHi (w : World) (e : Ending) (w' : World) : Prop :=
  ∃ (sv wv tv : Value) (ar : List Int) (Z : Nat) (tb : List (List Int)) (c : List Lt), e = .returned (.tuple #[.agg #[sv], .agg #[.int .i64 (Z : Int), wv], tv]) ∧ drawn ar ∧ SlI w.heap.size w'.heap.size w' sv ar ∧
    SlS w.heap.size w'.heap.size w' wv tb ∧ tb.length ≤ 6 ∧ (∀ j, (tb.getD j []).length ≤ 27) ∧ SlC w.heap.size w'.heap.size w' tv c ∧ fineC c ∧ Bel w w'
def RetDAl (w : World) (e : Ending) (w' : World) : Prop :=
  ∃ (sv wv tv : Value) (ar : List Int) (Z : Nat) (tb : List (List Int)) (cs : List (List Lt)), e = .returned (.tuple #[.agg #[sv], .agg #[.int .i64 (Z : Int), wv], tv]) ∧ drawn ar ∧ SlI w.heap.size w'.heap.size w' sv ar ∧
    SlS w.heap.size w'.heap.size w' wv tb ∧ tb.length ≤ 6 ∧ (∀ j, (tb.getD j []).length ≤ 27) ∧ SlCs w.heap.size w'.heap.size w' tv cs ∧ (cs.length ≤ 3 ∧ ∀ x ∈ cs, fineC x) ∧ Bel w w'
def RetDFw (w : World) (e : Ending) (w' : World) : Prop :=
  ∃ (sv tv : Value) (ar : List Int) (cs : List (List Lt)) (z : Nat), e = .returned (.tuple #[.agg #[sv], tv, .int .i64 (z : Int)]) ∧ drawn ar ∧ SlI w.heap.size w'.heap.size w' sv ar ∧ SlCs w.heap.size w'.heap.size w' tv cs ∧ (cs.length ≤ 3 ∧ ∀ x ∈ cs, fineC x) ∧ z ≤ 4 ∧ Bel w w'
def RetDWa (w : World) (e : Ending) (w' : World) : Prop :=
  ∃ (sv : Value) (ar : List Int) (z : Nat) (no : Int), e = .returned (.tuple #[.agg #[sv], .int .i64 (z : Int), .int .i64 no]) ∧ drawn ar ∧ SlI w.heap.size w'.heap.size w' sv ar ∧ z ≤ 4 ∧ -100 ≤ no ∧ no ≤ 100 ∧ Bel w w'

set_option maxRecDepth 100000 in
set_option maxHeartbeats 2000000 in
theorem drawHoldsIn_c (n : Nat) (v : Value) (w : World) (hn : n ≤ 1048576) (hv : SlB w.heap.size w v n) :
    Calls Try.prog 25 #[v] w (RetDHi w) := by
  obtain ⟨ad, cap, rfl, hcap, hr⟩ := hv
  have hv : SlB w.heap.size w (.slice ad n cap) n := ⟨ad, cap, rfl, hcap, hr⟩
  obtain ⟨W, hW⟩ : ∃ W, W = ((w.alloc (.cells #[.slice none 0 0] 26)).alloc (.cells #[.int .i64 0, .slice none 0 0] 29)) := ⟨_, rfl⟩
  have hB1 : Bel w W := by rw [hW]; exact Bel.alloc2 _ _ _
  have hs1 : W.heap.size = w.heap.size + 1 + 1 := by rw [hW]; simp
  have hC := Cur.new (T := 65) (w := W) (v := .slice ad n cap) (n := n) (by
    obtain ⟨ad', cap', e, hc, hr'⟩ := hv.chg (Chg.of_bel (lo := w.heap.size) (hi := w.heap.size) hB1) (Nat.le_refl _)
    exact ⟨ad', cap', e, hc, fun hp => by obtain ⟨b, off, e1, e2, e3⟩ := hr' hp; exact ⟨b, off, e1, by omega, e3⟩⟩)
  rw [hs1] at hC
  have hB2 := hB1.step (Bel.alloc0 W (.cells #[.slice ad n cap, .int .i64 0, .int .u64 0] 65))
  have hR0 : WCel w.heap.size (W.alloc (.cells #[.slice ad n cap, .int .i64 0, .int .u64 0] 65)) := by
    have : WCel w.heap.size W := by
      rw [hW]
      exact ⟨by simp [go_sem], by simp [go_sem], by simp [go_sem], fun j => by simp [go_sem], fun j => by simp [go_sem]⟩
    exact this.bel (Bel.alloc0 _ _) (by omega)
  have HS := Lib.hid (sign_c (w.heap.size + 1 + 1) n 0 _ (by omega) (by omega) hC)
  rw [hW] at HS
  go_enter Try.func25, Try.ntmps25
  go_wp2_with fail
  refine HS.out.mono ?_; rintro e w1 ⟨sv, ar, k1, rfl, hdr, hsv, hk1, hk2, hc1, hg1⟩
  obtain ⟨sa, sc, rfl⟩ := hsv.form
  rw [← hW] at hsv hg1
  have hW0 : (W.alloc (.cells #[.slice ad n cap, .int .i64 0, .int .u64 0] 65)).heap.size = w.heap.size + 1 + 1 + 1 := by simp [hs1]
  generalize (W.alloc (.cells #[.slice ad n cap, .int .i64 0, .int .u64 0] 65)) = W0 at *
  clear hW hC HS hB1 hs1
  have hal := drawn_len hdr
  have hz1 : W0.heap.size ≤ w1.heap.size := hg1.size
  have hR1 := hR0.chg hg1 (by omega)
  rw [hW0] at hsv
  have hB3 := Bel.alloc0 w1 (.cells #[.slice sa ar.length sc] 26)
  have hs2 : (w1.alloc (.cells #[.slice sa ar.length sc] 26)).heap.size = w1.heap.size + 1 := by simp
  have hbs2 : (w1.alloc (.cells #[.slice sa ar.length sc] 26)).cell? ⟨w1.heap.size, 0, none⟩ = some (.slice sa ar.length sc) := by rw [World.cell?_alloc_new w1]; rfl
  have hc2 := hc1.below hB3
  have hsv2 := hsv.below hB3
  have hR2 := hR1.bel hB3 (by omega)
  have hg2 := hg1.trans (Chg.of_bel (lo := w.heap.size + 1 + 1) (hi := w.heap.size + 1 + 1 + 1) hB3)
  clear hc1 hg1 hR0 hR1 hB3 hsv
  generalize hw2 : w1.alloc (.cells #[.slice sa ar.length sc] 26) = w2 at *
  go_wp2_with fail
  refine (world_c (w.heap.size + 1 + 1) n k1 _ _ _ ar w2 (by omega) (by omega) hdr (by omega) hc2 hsv2).mono ?_; rintro e w3 ⟨wa, wc, Z, tb, rfl, hwv, htl, hjl, hZ1, hZ4, k2, hk21, hk22, hc3, hg3⟩
  have hz3 : w2.heap.size ≤ w3.heap.size := hg3.size
  have hbs3 := hg3.cell (by omega) (by omega) hbs2
  have hR3 := hR2.chg hg3 (by omega)
  have hsv3 := hsv2.chg hg3 (by omega)
  have hg4 := hg2.trans hg3
  clear hbs2 hR2 hsv2 hg2 hg3 hc2
  have hB4 := Bel.alloc0 w3 (.cells #[.int .i64 (Z : Int), .slice wa tb.length wc] 29)
  have hs4 : (w3.alloc (.cells #[.int .i64 (Z : Int), .slice wa tb.length wc] 29)).heap.size = w3.heap.size + 1 := by simp
  have q0 : (w3.alloc (.cells #[.int .i64 (Z : Int), .slice wa tb.length wc] 29)).cell? ⟨w3.heap.size, 0, none⟩ = some (.int .i64 (Z : Int)) := by rw [World.cell?_alloc_new w3]; rfl
  have q1 : (w3.alloc (.cells #[.int .i64 (Z : Int), .slice wa tb.length wc] 29)).cell? ⟨w3.heap.size, 1, none⟩ = some (.slice wa tb.length wc) := by rw [World.cell?_alloc_new w3]; rfl
  replace hc3 := hc3.below hB4
  replace hsv3 := hsv3.below hB4
  replace hwv := hwv.below hB4
  replace hR3 := hR3.bel hB4 (by omega)
  replace hbs3 := hB4.at (by omega) hbs3
  replace hg4 := hg4.trans (Chg.of_bel (lo := w.heap.size + 1 + 1) (hi := w.heap.size + 1 + 1 + 1) hB4)
  clear hB4
  generalize hw4 : w3.alloc (.cells #[.int .i64 (Z : Int), .slice wa tb.length wc] 29) = w4 at *
  have hG1b : w.heap.size + 1 + 1 + 1 ≤ w1.heap.size := by omega
  have hG3b : w.heap.size + 1 + 1 + 1 ≤ w3.heap.size := by omega
  replace hsv3 := hsv3.mono (Nat.le_refl _) (show _ ≤ w4.heap.size by omega)
  replace hwv := hwv.mono (show w.heap.size + 1 + 1 + 1 ≤ _ by omega) (show _ ≤ w4.heap.size by omega)
  go_wp2_with fail
  clear hw2 hw4
  generalize w1.heap.size = G1 at *
  generalize w3.heap.size = G3 at *
  have hG1c : G1 < w4.heap.size := World.block_lt_of_cell? w4 ⟨G1, _, none⟩ hbs3
  have hG3c : G3 < w4.heap.size := World.block_lt_of_cell? w4 ⟨G3, _, none⟩ q0
  have hS0 : (w4.cell? ⟨G1, 0, none⟩ = some (.slice sa ar.length sc) ∧ (w4.cell? ⟨G3, 0, none⟩ = some (.int .i64 (Z : Int)) ∧ w4.cell? ⟨G3, 1, none⟩ = some (.slice wa tb.length wc))) := ⟨hbs3, q0, q1⟩
  have hdrew : ∀ (w' : World), (w'.cell? ⟨G1, 0, none⟩ = some (.slice sa ar.length sc) ∧ (w'.cell? ⟨G3, 0, none⟩ = some (.int .i64 (Z : Int)) ∧ w'.cell? ⟨G3, 1, none⟩ = some (.slice wa tb.length wc))) → (w'.drew.cell? ⟨G1, 0, none⟩ = some (.slice sa ar.length sc) ∧ (w'.drew.cell? ⟨G3, 0, none⟩ = some (.int .i64 (Z : Int)) ∧ w'.drew.cell? ⟨G3, 1, none⟩ = some (.slice wa tb.length wc))) := fun _ h => h
  have hsetS : ∀ (w' : World) (b o : Nat) (u : Value), b < w.heap.size + 1 + 1 + 1 → (w'.cell? ⟨G1, 0, none⟩ = some (.slice sa ar.length sc) ∧ (w'.cell? ⟨G3, 0, none⟩ = some (.int .i64 (Z : Int)) ∧ w'.cell? ⟨G3, 1, none⟩ = some (.slice wa tb.length wc))) →
      ((w'.setCell ⟨b, o, none⟩ u).cell? ⟨G1, 0, none⟩ = some (.slice sa ar.length sc) ∧ ((w'.setCell ⟨b, o, none⟩ u).cell? ⟨G3, 0, none⟩ = some (.int .i64 (Z : Int)) ∧ (w'.setCell ⟨b, o, none⟩ u).cell? ⟨G3, 1, none⟩ = some (.slice wa tb.length wc))) := fun w' b o u hlt h => by
    have e : ∀ (g j : Nat), w.heap.size + 1 + 1 + 1 ≤ g → (w'.setCell ⟨b, o, none⟩ u).cell? ⟨g, j, none⟩ = w'.cell? ⟨g, j, none⟩ := fun g j hg => by rw [World.cell?_setCell_other (h := by intro h; simp at h <;> omega)]
    rw [e _ _ hG1b, e _ _ hG3b, e _ _ hG3b]; exact h
  go_region_held3 (fun w' => w'.cell? ⟨G1, 0, none⟩ = some (.slice sa ar.length sc) ∧ (w'.cell? ⟨G3, 0, none⟩ = some (.int .i64 (Z : Int)) ∧ w'.cell? ⟨G3, 1, none⟩ = some (.slice wa tb.length wc)))
    (first | (with_reducible refine hdrew _ ?_; (repeat (with_reducible refine hsetS _ _ _ _ (by omega) ?_)); with_reducible exact hS0) | (with_reducible exact hS5) | ((repeat (with_reducible refine hsetS _ _ _ _ (by omega) ?_)); with_reducible exact hS5))
    (first | (go_at_call 54; refine (clause_c (w.heap.size + 1 + 1) n k2 _ _ _ ar _ (by omega) (by omega) hdr (by omega) (hc3.below (Bel.drew0 _)) (hsv3.below (Bel.drew0 _))).mono ?_; rintro e w5 ⟨oT, tA, rfl, hA, hc9, hsh, k3, hk31, hk32, hc5, hgx⟩; obtain ⟨aA, cA, rfl⟩ := hA.form; have hlA : fineC tA := ⟨hc9, hsh⟩; have hg5 := (Chg.of_bel (lo := w.heap.size + 1 + 1) (hi := w.heap.size + 1 + 1 + 1) (Bel.drew0 w4)).trans hgx; have hS5 := And.intro (hg5.cell hG1c (by omega) hbs3) (And.intro (hg5.cell hG3c (by omega) q0) (hg5.cell hG3c (by omega) q1)); have hR6 := hR3.chg hg5 (by omega); have hr0 := hR6.s0; have hra0 := hR6.a0; have hra1 := hR6.a1; have hf0 := hR6.fs; have hfa := hR6.fa) | fail)
  have hz5 : w4.heap.size ≤ w5.heap.size := hg5.size
  have hgF := hg4.trans hg5
  replace hsv3 := (hsv3.chg hg5 (by omega)).mono (Nat.le_refl _) hz5
  replace hwv := (hwv.chg hg5 (by omega)).mono (Nat.le_refl _) hz5
  have hA2 := hA.mono (show w.heap.size + 1 + 1 + 1 ≤ _ by show _ ≤ w4.heap.size + 1; omega) (Nat.le_refl _)
  obtain ⟨NE, hNE⟩ : ∃ x, x = ((w5.setCell ⟨w.heap.size, 0, none⟩ (.slice sa ar.length sc)).setCell ⟨w.heap.size + 1, 0, none⟩ (.int .i64 (Z : Int))).setCell ⟨w.heap.size + 1, 1, none⟩ (.slice wa tb.length wc) := ⟨_, rfl⟩
  have hEQ : ∀ b, w.heap.size + 1 + 1 + 1 ≤ b → NE.heap[b]? = w5.heap[b]? := fun b hb => by
    rw [hNE]; rw [Below.heap_setCell _ _ _ b (by show _ ≠ _; simp only; omega)]; rw [Below.heap_setCell _ _ _ b (by show _ ≠ _; simp only; omega)]; rw [Below.heap_setCell _ _ _ b (by show _ ≠ _; simp only; omega)]
  have hBF : Bel w NE := by rw [hNE]; exact ((((hgF.bel hB2 (by omega)).set (p := ⟨w.heap.size, 0, none⟩) (by show w.heap.size ≤ _; simp only; omega) (.slice sa ar.length sc)).set (p := ⟨w.heap.size + 1, 0, none⟩) (by show w.heap.size ≤ _; simp only; omega) (.int .i64 (Z : Int))).set (p := ⟨w.heap.size + 1, 1, none⟩) (by show w.heap.size ≤ _; simp only; omega) (.slice wa tb.length wc))
  have hsz : NE.heap.size = w5.heap.size := by rw [hNE]; simp
  have c00 : NE.cell? ⟨w.heap.size, 0, none⟩ = some (.slice sa ar.length sc) := by rw [hNE]; simp [go_sem, hr0]
  have c11 : NE.cell? ⟨w.heap.size + 1, 0, none⟩ = some (.int .i64 (Z : Int)) := by rw [hNE]; simp [go_sem, hra0]
  have c22 : NE.cell? ⟨w.heap.size + 1, 1, none⟩ = some (.slice wa tb.length wc) := by rw [hNE]; simp [go_sem, hra1]
  rw [← hNE]
  have g1 := (hsv3.same (w' := NE) (fun b h1 _ _ => hEQ b h1)).mono (show w.heap.size ≤ w.heap.size + 1 + 1 + 1 by omega) (show w5.heap.size ≤ NE.heap.size from Nat.le_of_eq hsz.symm)
  have g2 := (hwv.same (w' := NE) (fun b h1 _ _ => hEQ b h1)).mono (show w.heap.size ≤ w.heap.size + 1 + 1 + 1 by omega) (show w5.heap.size ≤ NE.heap.size from Nat.le_of_eq hsz.symm)
  have g3 := (hA2.same (w' := NE) (fun b h1 _ _ => hEQ b h1)).mono (show w.heap.size ≤ w.heap.size + 1 + 1 + 1 by omega) (show w5.heap.size ≤ NE.heap.size from Nat.le_of_eq hsz.symm)
  clear hEQ hNE hr0 hra0 hra1
  go_wp2_with fail
  exact bodyPost_ret (v := .tuple #[.agg #[.slice sa ar.length sc], .agg #[.int .i64 (Z : Int), .slice wa tb.length wc], .slice aA tA.length cA]) (by simp [results, Try.results25, go_sem, c00, c11, c22]) rfl ⟨_, _, _, ar, Z, tb, tA, rfl, hdr, g1, g2, htl, hjl, g3, hlA, hBF⟩

set_option maxRecDepth 100000 in
set_option maxHeartbeats 2000000 in
theorem drawAllHold_c (n : Nat) (v : Value) (w : World) (hn : n ≤ 1048576) (hv : SlB w.heap.size w v n) :
    Calls Try.prog 23 #[v] w (RetDAl w) := by
  obtain ⟨ad, cap, rfl, hcap, hr⟩ := hv
  have hv : SlB w.heap.size w (.slice ad n cap) n := ⟨ad, cap, rfl, hcap, hr⟩
  obtain ⟨W, hW⟩ : ∃ W, W = ((w.alloc (.cells #[.slice none 0 0] 26)).alloc (.cells #[.int .i64 0, .slice none 0 0] 29)) := ⟨_, rfl⟩
  have hB1 : Bel w W := by rw [hW]; exact Bel.alloc2 _ _ _
  have hs1 : W.heap.size = w.heap.size + 1 + 1 := by rw [hW]; simp
  have hC := Cur.new (T := 65) (w := W) (v := .slice ad n cap) (n := n) (by
    obtain ⟨ad', cap', e, hc, hr'⟩ := hv.chg (Chg.of_bel (lo := w.heap.size) (hi := w.heap.size) hB1) (Nat.le_refl _)
    exact ⟨ad', cap', e, hc, fun hp => by obtain ⟨b, off, e1, e2, e3⟩ := hr' hp; exact ⟨b, off, e1, by omega, e3⟩⟩)
  rw [hs1] at hC
  have hB2 := hB1.step (Bel.alloc0 W (.cells #[.slice ad n cap, .int .i64 0, .int .u64 0] 65))
  have hR0 : WCel w.heap.size (W.alloc (.cells #[.slice ad n cap, .int .i64 0, .int .u64 0] 65)) := by
    have : WCel w.heap.size W := by
      rw [hW]
      exact ⟨by simp [go_sem], by simp [go_sem], by simp [go_sem], fun j => by simp [go_sem], fun j => by simp [go_sem]⟩
    exact this.bel (Bel.alloc0 _ _) (by omega)
  have HS := Lib.hid (sign_c (w.heap.size + 1 + 1) n 0 _ (by omega) (by omega) hC)
  rw [hW] at HS
  go_enter Try.func23, Try.ntmps23
  go_wp2_with fail
  refine HS.out.mono ?_; rintro e w1 ⟨sv, ar, k1, rfl, hdr, hsv, hk1, hk2, hc1, hg1⟩
  obtain ⟨sa, sc, rfl⟩ := hsv.form
  rw [← hW] at hsv hg1
  have hW0 : (W.alloc (.cells #[.slice ad n cap, .int .i64 0, .int .u64 0] 65)).heap.size = w.heap.size + 1 + 1 + 1 := by simp [hs1]
  generalize (W.alloc (.cells #[.slice ad n cap, .int .i64 0, .int .u64 0] 65)) = W0 at *
  clear hW hC HS hB1 hs1
  have hal := drawn_len hdr
  have hz1 : W0.heap.size ≤ w1.heap.size := hg1.size
  have hR1 := hR0.chg hg1 (by omega)
  rw [hW0] at hsv
  have hB3 := Bel.alloc0 w1 (.cells #[.slice sa ar.length sc] 26)
  have hs2 : (w1.alloc (.cells #[.slice sa ar.length sc] 26)).heap.size = w1.heap.size + 1 := by simp
  have hbs2 : (w1.alloc (.cells #[.slice sa ar.length sc] 26)).cell? ⟨w1.heap.size, 0, none⟩ = some (.slice sa ar.length sc) := by rw [World.cell?_alloc_new w1]; rfl
  have hc2 := hc1.below hB3
  have hsv2 := hsv.below hB3
  have hR2 := hR1.bel hB3 (by omega)
  have hg2 := hg1.trans (Chg.of_bel (lo := w.heap.size + 1 + 1) (hi := w.heap.size + 1 + 1 + 1) hB3)
  clear hc1 hg1 hR0 hR1 hB3 hsv
  generalize hw2 : w1.alloc (.cells #[.slice sa ar.length sc] 26) = w2 at *
  go_wp2_with fail
  refine (world_c (w.heap.size + 1 + 1) n k1 _ _ _ ar w2 (by omega) (by omega) hdr (by omega) hc2 hsv2).mono ?_; rintro e w3 ⟨wa, wc, Z, tb, rfl, hwv, htl, hjl, hZ1, hZ4, k2, hk21, hk22, hc3, hg3⟩
  have hz3 : w2.heap.size ≤ w3.heap.size := hg3.size
  have hbs3 := hg3.cell (by omega) (by omega) hbs2
  have hR3 := hR2.chg hg3 (by omega)
  have hsv3 := hsv2.chg hg3 (by omega)
  have hg4 := hg2.trans hg3
  clear hbs2 hR2 hsv2 hg2 hg3 hc2
  have hB4 := Bel.alloc0 w3 (.cells #[.int .i64 (Z : Int), .slice wa tb.length wc] 29)
  have hs4 : (w3.alloc (.cells #[.int .i64 (Z : Int), .slice wa tb.length wc] 29)).heap.size = w3.heap.size + 1 := by simp
  have q0 : (w3.alloc (.cells #[.int .i64 (Z : Int), .slice wa tb.length wc] 29)).cell? ⟨w3.heap.size, 0, none⟩ = some (.int .i64 (Z : Int)) := by rw [World.cell?_alloc_new w3]; rfl
  have q1 : (w3.alloc (.cells #[.int .i64 (Z : Int), .slice wa tb.length wc] 29)).cell? ⟨w3.heap.size, 1, none⟩ = some (.slice wa tb.length wc) := by rw [World.cell?_alloc_new w3]; rfl
  replace hc3 := hc3.below hB4
  replace hsv3 := hsv3.below hB4
  replace hwv := hwv.below hB4
  replace hR3 := hR3.bel hB4 (by omega)
  replace hbs3 := hB4.at (by omega) hbs3
  replace hg4 := hg4.trans (Chg.of_bel (lo := w.heap.size + 1 + 1) (hi := w.heap.size + 1 + 1 + 1) hB4)
  clear hB4
  generalize hw4 : w3.alloc (.cells #[.int .i64 (Z : Int), .slice wa tb.length wc] 29) = w4 at *
  have hG1b : w.heap.size + 1 + 1 + 1 ≤ w1.heap.size := by omega
  have hG3b : w.heap.size + 1 + 1 + 1 ≤ w3.heap.size := by omega
  replace hsv3 := hsv3.mono (Nat.le_refl _) (show _ ≤ w4.heap.size by omega)
  replace hwv := hwv.mono (show w.heap.size + 1 + 1 + 1 ≤ _ by omega) (show _ ≤ w4.heap.size by omega)
  go_wp2_with fail
  clear hw2 hw4
  generalize w1.heap.size = G1 at *
  generalize w3.heap.size = G3 at *
  have hG1c : G1 < w4.heap.size := World.block_lt_of_cell? w4 ⟨G1, _, none⟩ hbs3
  have hG3c : G3 < w4.heap.size := World.block_lt_of_cell? w4 ⟨G3, _, none⟩ q0
  have hS0 : (w4.cell? ⟨G1, 0, none⟩ = some (.slice sa ar.length sc) ∧ (w4.cell? ⟨G3, 0, none⟩ = some (.int .i64 (Z : Int)) ∧ w4.cell? ⟨G3, 1, none⟩ = some (.slice wa tb.length wc))) := ⟨hbs3, q0, q1⟩
  have hdrew : ∀ (w' : World), (w'.cell? ⟨G1, 0, none⟩ = some (.slice sa ar.length sc) ∧ (w'.cell? ⟨G3, 0, none⟩ = some (.int .i64 (Z : Int)) ∧ w'.cell? ⟨G3, 1, none⟩ = some (.slice wa tb.length wc))) → (w'.drew.cell? ⟨G1, 0, none⟩ = some (.slice sa ar.length sc) ∧ (w'.drew.cell? ⟨G3, 0, none⟩ = some (.int .i64 (Z : Int)) ∧ w'.drew.cell? ⟨G3, 1, none⟩ = some (.slice wa tb.length wc))) := fun _ h => h
  have hsetS : ∀ (w' : World) (b o : Nat) (u : Value), b < w.heap.size + 1 + 1 + 1 → (w'.cell? ⟨G1, 0, none⟩ = some (.slice sa ar.length sc) ∧ (w'.cell? ⟨G3, 0, none⟩ = some (.int .i64 (Z : Int)) ∧ w'.cell? ⟨G3, 1, none⟩ = some (.slice wa tb.length wc))) →
      ((w'.setCell ⟨b, o, none⟩ u).cell? ⟨G1, 0, none⟩ = some (.slice sa ar.length sc) ∧ ((w'.setCell ⟨b, o, none⟩ u).cell? ⟨G3, 0, none⟩ = some (.int .i64 (Z : Int)) ∧ (w'.setCell ⟨b, o, none⟩ u).cell? ⟨G3, 1, none⟩ = some (.slice wa tb.length wc))) := fun w' b o u hlt h => by
    have e : ∀ (g j : Nat), w.heap.size + 1 + 1 + 1 ≤ g → (w'.setCell ⟨b, o, none⟩ u).cell? ⟨g, j, none⟩ = w'.cell? ⟨g, j, none⟩ := fun g j hg => by rw [World.cell?_setCell_other (h := by intro h; simp at h <;> omega)]
    rw [e _ _ hG1b, e _ _ hG3b, e _ _ hG3b]; exact h
  go_region_held3 (fun w' => w'.cell? ⟨G1, 0, none⟩ = some (.slice sa ar.length sc) ∧ (w'.cell? ⟨G3, 0, none⟩ = some (.int .i64 (Z : Int)) ∧ w'.cell? ⟨G3, 1, none⟩ = some (.slice wa tb.length wc)))
    (first | (with_reducible refine hdrew _ ?_; (repeat (with_reducible refine hsetS _ _ _ _ (by omega) ?_)); with_reducible exact hS0) | (with_reducible exact hS5) | ((repeat (with_reducible refine hsetS _ _ _ _ (by omega) ?_)); with_reducible exact hS5))
    (first | (go_at_call 37; refine (clauses_c (w.heap.size + 1 + 1) n k2 _ _ _ ar _ (by omega) (by omega) hdr (by omega) (hc3.below (Bel.drew0 _)) (hsv3.below (Bel.drew0 _))).mono ?_; rintro e w5 ⟨aA, cA, tA, rfl, hA, hc9, hsh, k3, hk31, hk32, hc5, hgx⟩; have hlA := And.intro hc9 hsh; have hg5 := (Chg.of_bel (lo := w.heap.size + 1 + 1) (hi := w.heap.size + 1 + 1 + 1) (Bel.drew0 w4)).trans hgx; have hS5 := And.intro (hg5.cell hG1c (by omega) hbs3) (And.intro (hg5.cell hG3c (by omega) q0) (hg5.cell hG3c (by omega) q1)); have hR6 := hR3.chg hg5 (by omega); have hr0 := hR6.s0; have hra0 := hR6.a0; have hra1 := hR6.a1; have hf0 := hR6.fs; have hfa := hR6.fa) | fail)
  have hz5 : w4.heap.size ≤ w5.heap.size := hg5.size
  have hgF := hg4.trans hg5
  replace hsv3 := (hsv3.chg hg5 (by omega)).mono (Nat.le_refl _) hz5
  replace hwv := (hwv.chg hg5 (by omega)).mono (Nat.le_refl _) hz5
  have hA2 := slCs_mono hA (show w.heap.size + 1 + 1 + 1 ≤ _ by show _ ≤ w4.heap.size + 1; omega) (Nat.le_refl _)
  obtain ⟨NE, hNE⟩ : ∃ x, x = ((w5.setCell ⟨w.heap.size, 0, none⟩ (.slice sa ar.length sc)).setCell ⟨w.heap.size + 1, 0, none⟩ (.int .i64 (Z : Int))).setCell ⟨w.heap.size + 1, 1, none⟩ (.slice wa tb.length wc) := ⟨_, rfl⟩
  have hEQ : ∀ b, w.heap.size + 1 + 1 + 1 ≤ b → NE.heap[b]? = w5.heap[b]? := fun b hb => by
    rw [hNE]; rw [Below.heap_setCell _ _ _ b (by show _ ≠ _; simp only; omega)]; rw [Below.heap_setCell _ _ _ b (by show _ ≠ _; simp only; omega)]; rw [Below.heap_setCell _ _ _ b (by show _ ≠ _; simp only; omega)]
  have hBF : Bel w NE := by rw [hNE]; exact ((((hgF.bel hB2 (by omega)).set (p := ⟨w.heap.size, 0, none⟩) (by show w.heap.size ≤ _; simp only; omega) (.slice sa ar.length sc)).set (p := ⟨w.heap.size + 1, 0, none⟩) (by show w.heap.size ≤ _; simp only; omega) (.int .i64 (Z : Int))).set (p := ⟨w.heap.size + 1, 1, none⟩) (by show w.heap.size ≤ _; simp only; omega) (.slice wa tb.length wc))
  have hsz : NE.heap.size = w5.heap.size := by rw [hNE]; simp
  have c00 : NE.cell? ⟨w.heap.size, 0, none⟩ = some (.slice sa ar.length sc) := by rw [hNE]; simp [go_sem, hr0]
  have c11 : NE.cell? ⟨w.heap.size + 1, 0, none⟩ = some (.int .i64 (Z : Int)) := by rw [hNE]; simp [go_sem, hra0]
  have c22 : NE.cell? ⟨w.heap.size + 1, 1, none⟩ = some (.slice wa tb.length wc) := by rw [hNE]; simp [go_sem, hra1]
  rw [← hNE]
  have g1 := (hsv3.same (w' := NE) (fun b h1 _ _ => hEQ b h1)).mono (show w.heap.size ≤ w.heap.size + 1 + 1 + 1 by omega) (show w5.heap.size ≤ NE.heap.size from Nat.le_of_eq hsz.symm)
  have g2 := (hwv.same (w' := NE) (fun b h1 _ _ => hEQ b h1)).mono (show w.heap.size ≤ w.heap.size + 1 + 1 + 1 by omega) (show w5.heap.size ≤ NE.heap.size from Nat.le_of_eq hsz.symm)
  have g3 := slCs_mono (slCs_same hA2 (w' := NE) (fun b h1 _ _ => hEQ b h1)) (show w.heap.size ≤ w.heap.size + 1 + 1 + 1 by omega) (show w5.heap.size ≤ NE.heap.size from Nat.le_of_eq hsz.symm)
  clear hEQ hNE hr0 hra0 hra1
  go_wp2_with fail
  exact bodyPost_ret (v := .tuple #[.agg #[.slice sa ar.length sc], .agg #[.int .i64 (Z : Int), .slice wa tb.length wc], .slice aA tA.length cA]) (by simp [results, Try.results23, go_sem, c00, c11, c22]) rfl ⟨_, _, _, ar, Z, tb, tA, rfl, hdr, g1, g2, htl, hjl, g3, hlA, hBF⟩

set_option maxRecDepth 100000 in
set_option maxHeartbeats 1000000 in
theorem drawFalseAt_c (n : Nat) (v : Value) (w : World) (hn : n ≤ 1048576) (hv : SlB w.heap.size w v n) :
    Calls Try.prog 5 #[v] w (RetDHi w) := by
  obtain ⟨ad, cap, rfl, hcap, hr⟩ := hv
  have hv : SlB w.heap.size w (.slice ad n cap) n := ⟨ad, cap, rfl, hcap, hr⟩
  obtain ⟨W, hW⟩ : ∃ W, W = ((w.alloc (.cells #[.slice none 0 0] 26)).alloc (.cells #[.int .i64 0, .slice none 0 0] 29)) := ⟨_, rfl⟩
  have hB1 : Bel w W := by rw [hW]; exact Bel.alloc2 _ _ _
  have hs1 : W.heap.size = w.heap.size + 1 + 1 := by rw [hW]; simp
  have hR0 : WCel w.heap.size W := by
    rw [hW]
    exact ⟨by simp [go_sem], by simp [go_sem], by simp [go_sem], fun j => by simp [go_sem], fun j => by simp [go_sem]⟩
  have HD := Lib.hid (drawHoldsIn_c n (.slice ad n cap) W hn (by
    obtain ⟨ad', cap', e, hc, hr'⟩ := hv.chg (Chg.of_bel (lo := w.heap.size) (hi := w.heap.size) hB1) (Nat.le_refl _)
    exact ⟨ad', cap', e, hc, fun hp => by obtain ⟨b, off, e1, e2, e3⟩ := hr' hp; exact ⟨b, off, e1, by omega, e3⟩⟩))
  rw [hW] at HD
  go_enter Try.func5, Try.ntmps5
  go_wp2_with fail
  refine HD.out.mono ?_; rintro e w1 ⟨sv, wv, tv, ar, Z, tb, c, rfl, hdr, hsv, hwv, htl, hjl, hA, hlA, hb1⟩
  rw [← hW] at hsv hwv hA hb1
  obtain ⟨sa, sc, rfl⟩ := hsv.form
  obtain ⟨wa, wc, rfl⟩ := hwv.form
  obtain ⟨aA, cA, rfl⟩ := hA.form
  have hR6 := hR0.bel hb1 (by omega)
  have hr0 := hR6.s0
  have hra0 := hR6.a0
  have hra1 := hR6.a1
  have hf0 := hR6.fs
  have hfa := hR6.fa
  have hz1 := hb1.size
  have hgF := hB1.step hb1
  rw [hs1] at hsv hwv hA
  clear hW HD hR0 hb1 hB1
  obtain ⟨NE, hNE⟩ : ∃ x, x = ((w1.setCell ⟨w.heap.size, 0, none⟩ (.slice sa ar.length sc)).setCell ⟨w.heap.size + 1, 0, none⟩ (.int .i64 (Z : Int))).setCell ⟨w.heap.size + 1, 1, none⟩ (.slice wa tb.length wc) := ⟨_, rfl⟩
  have hEQ : ∀ b, w.heap.size + 1 + 1 ≤ b → NE.heap[b]? = w1.heap[b]? := fun b hb => by
    rw [hNE]; rw [Below.heap_setCell _ _ _ b (by show _ ≠ _; simp only; omega)]; rw [Below.heap_setCell _ _ _ b (by show _ ≠ _; simp only; omega)]; rw [Below.heap_setCell _ _ _ b (by show _ ≠ _; simp only; omega)]
  have hBF : Bel w NE := by rw [hNE]; exact (((hgF.set (p := ⟨w.heap.size, 0, none⟩) (by show w.heap.size ≤ _; simp only; omega) (.slice sa ar.length sc)).set (p := ⟨w.heap.size + 1, 0, none⟩) (by show w.heap.size ≤ _; simp only; omega) (.int .i64 (Z : Int))).set (p := ⟨w.heap.size + 1, 1, none⟩) (by show w.heap.size ≤ _; simp only; omega) (.slice wa tb.length wc))
  have hsz : NE.heap.size = w1.heap.size := by rw [hNE]; simp
  have c00 : NE.cell? ⟨w.heap.size, 0, none⟩ = some (.slice sa ar.length sc) := by rw [hNE]; simp [go_sem, hr0]
  have c11 : NE.cell? ⟨w.heap.size + 1, 0, none⟩ = some (.int .i64 (Z : Int)) := by rw [hNE]; simp [go_sem, hra0]
  have c22 : NE.cell? ⟨w.heap.size + 1, 1, none⟩ = some (.slice wa tb.length wc) := by rw [hNE]; simp [go_sem, hra1]
  go_wp2_with fail
  rw [← hNE]
  have g1 := (hsv.same (w' := NE) (fun b h1 _ _ => hEQ b h1)).mono (show w.heap.size ≤ w.heap.size + 1 + 1 by omega) (show w1.heap.size ≤ NE.heap.size from Nat.le_of_eq hsz.symm)
  have g2 := (hwv.same (w' := NE) (fun b h1 _ _ => hEQ b h1)).mono (show w.heap.size ≤ w.heap.size + 1 + 1 by omega) (show w1.heap.size ≤ NE.heap.size from Nat.le_of_eq hsz.symm)
  have g3 := (hA.same (w' := NE) (fun b h1 _ _ => hEQ b h1)).mono (show w.heap.size ≤ w.heap.size + 1 + 1 by omega) (show w1.heap.size ≤ NE.heap.size from Nat.le_of_eq hsz.symm)
  clear hEQ hNE hr0 hra0 hra1
  exact bodyPost_ret (v := .tuple #[.agg #[.slice sa ar.length sc], .agg #[.int .i64 (Z : Int), .slice wa tb.length wc], .slice aA c.length cA]) (by simp [results, Try.results5, go_sem, c00, c11, c22]) rfl ⟨_, _, _, ar, Z, tb, c, rfl, hdr, g1, g2, htl, hjl, g3, hlA, hBF⟩

set_option maxRecDepth 100000 in
set_option maxHeartbeats 2000000 in
theorem drawFindWorld_c (n : Nat) (v : Value) (w : World) (hn : n ≤ 1048576) (hv : SlB w.heap.size w v n) :
    Calls Try.prog 12 #[v] w (RetDFw w) := by
  obtain ⟨ad, cap, rfl, hcap, hr⟩ := hv
  have hv : SlB w.heap.size w (.slice ad n cap) n := ⟨ad, cap, rfl, hcap, hr⟩
  obtain ⟨W, hW⟩ : ∃ W, W = (w.alloc (.cells #[.slice none 0 0] 26)) := ⟨_, rfl⟩
  have hB1 : Bel w W := by rw [hW]; exact Bel.alloc0 _ _
  have hs1 : W.heap.size = w.heap.size + 1 := by rw [hW]; simp
  have hC := Cur.new (T := 65) (w := W) (v := .slice ad n cap) (n := n) (by
    obtain ⟨ad', cap', e, hc, hr'⟩ := hv.chg (Chg.of_bel (lo := w.heap.size) (hi := w.heap.size) hB1) (Nat.le_refl _)
    exact ⟨ad', cap', e, hc, fun hp => by obtain ⟨b, off, e1, e2, e3⟩ := hr' hp; exact ⟨b, off, e1, by omega, e3⟩⟩)
  rw [hs1] at hC
  have hB2 := hB1.step (Bel.alloc0 W (.cells #[.slice ad n cap, .int .i64 0, .int .u64 0] 65))
  have hR0 : (W.alloc (.cells #[.slice ad n cap, .int .i64 0, .int .u64 0] 65)).cell? ⟨w.heap.size, 0, none⟩ = some (.slice none 0 0) ∧ (W.alloc (.cells #[.slice ad n cap, .int .i64 0, .int .u64 0] 65)).frozen? ⟨w.heap.size, 0, none⟩ = false :=
    ⟨(Bel.alloc0 W (.cells #[.slice ad n cap, .int .i64 0, .int .u64 0] 65)).at (b := w.heap.size) (by omega) (by rw [hW]; simp [go_sem]), (World.frozen?_of_block (w := W) (a := ⟨w.heap.size, 0, none⟩) ((Bel.alloc0 W (.cells #[.slice ad n cap, .int .i64 0, .int .u64 0] 65)).block w.heap.size (by omega))).trans (by rw [hW]; simp [go_sem])⟩
  have HS := Lib.hid (smallSign_c (w.heap.size + 1) n 0 _ (by omega) (by omega) hC)
  rw [hW] at HS
  go_enter Try.func12, Try.ntmps12
  go_wp2_with fail
  refine HS.out.mono ?_; rintro e w1 ⟨sv, ar, k1, rfl, hdr, hsv, hk1, hk2, hc1, hg1⟩
  obtain ⟨sa, sc, rfl⟩ := hsv.form
  rw [← hW] at hsv hg1
  have hW0 : (W.alloc (.cells #[.slice ad n cap, .int .i64 0, .int .u64 0] 65)).heap.size = w.heap.size + 1 + 1 := by simp [hs1]
  generalize (W.alloc (.cells #[.slice ad n cap, .int .i64 0, .int .u64 0] 65)) = W0 at *
  clear hW hC HS hB1 hs1
  have hal := drawn_len hdr
  have hz1 : W0.heap.size ≤ w1.heap.size := hg1.size
  have hR1 : w1.cell? ⟨w.heap.size, 0, none⟩ = some (.slice none 0 0) ∧ w1.frozen? ⟨w.heap.size, 0, none⟩ = false := ⟨hg1.cell (by omega) (by omega) hR0.1, (World.frozen?_of_block (w := W0) (w' := w1) (a := ⟨w.heap.size, 0, none⟩) (hg1.block w.heap.size (by omega) (by omega))).trans hR0.2⟩
  rw [hW0] at hsv
  have hB3 := Bel.alloc0 w1 (.cells #[.slice sa ar.length sc] 26)
  have hs2 : (w1.alloc (.cells #[.slice sa ar.length sc] 26)).heap.size = w1.heap.size + 1 := by simp
  have hbs2 : (w1.alloc (.cells #[.slice sa ar.length sc] 26)).cell? ⟨w1.heap.size, 0, none⟩ = some (.slice sa ar.length sc) := by rw [World.cell?_alloc_new w1]; rfl
  have hc2 := hc1.below hB3
  have hsv2 := hsv.below hB3
  have hR2 : (w1.alloc (.cells #[.slice sa ar.length sc] 26)).cell? ⟨w.heap.size, 0, none⟩ = some (.slice none 0 0) ∧ (w1.alloc (.cells #[.slice sa ar.length sc] 26)).frozen? ⟨w.heap.size, 0, none⟩ = false := ⟨hB3.at (b := w.heap.size) (by omega) hR1.1, (World.frozen?_of_block (w := w1) (a := ⟨w.heap.size, 0, none⟩) (hB3.block w.heap.size (by omega))).trans hR1.2⟩
  have hg2 := hg1.trans (Chg.of_bel (lo := w.heap.size + 1) (hi := w.heap.size + 1 + 1) hB3)
  clear hc1 hg1 hR0 hR1 hB3 hsv
  generalize hw2 : w1.alloc (.cells #[.slice sa ar.length sc] 26) = w2 at *
  have hG1b : w.heap.size + 1 + 1 ≤ w1.heap.size := by omega
  replace hsv2 := hsv2.mono (Nat.le_refl _) (show _ ≤ w2.heap.size by omega)
  go_wp2_with fail
  clear hw2
  generalize w1.heap.size = G1 at *
  have hG1c : G1 < w2.heap.size := World.block_lt_of_cell? w2 ⟨G1, _, none⟩ hbs2
  have hdrew : ∀ (w' : World), (w'.cell? ⟨G1, 0, none⟩ = some (.slice sa ar.length sc)) → (w'.drew.cell? ⟨G1, 0, none⟩ = some (.slice sa ar.length sc)) := fun _ h => h
  have hsetS : ∀ (w' : World) (b o : Nat) (u : Value), b < w.heap.size + 1 + 1 → (w'.cell? ⟨G1, 0, none⟩ = some (.slice sa ar.length sc)) →
      ((w'.setCell ⟨b, o, none⟩ u).cell? ⟨G1, 0, none⟩ = some (.slice sa ar.length sc)) := fun w' b o u hlt h => by
    rw [World.cell?_setCell_other (h := by intro h; simp at h <;> omega)]; exact h
  go_region_held3 (fun w' => w'.cell? ⟨G1, 0, none⟩ = some (.slice sa ar.length sc))
    (first | (with_reducible refine hdrew _ ?_; (repeat (with_reducible refine hsetS _ _ _ _ (by omega) ?_)); with_reducible exact hbs2) | (with_reducible exact hS5) | (with_reducible exact hS6) | ((repeat (with_reducible refine hsetS _ _ _ _ (by omega) ?_)); with_reducible exact hS6))
    (first | (go_at_call 38; refine (size_c (w.heap.size + 1) n k3 _ (by omega) (by omega) hc5).mono ?_; rintro e w6 ⟨z, rfl, hz4, k4, hk41, hk42, hc6, hgy⟩; have hg6 := hg5.trans hgy; have hS6 := hg6.cell hG1c (by omega) hbs2; have hR6 : w6.cell? ⟨w.heap.size, 0, none⟩ = some (.slice none 0 0) ∧ w6.frozen? ⟨w.heap.size, 0, none⟩ = false := ⟨hg6.cell (by omega) (by omega) hR2.1, (World.frozen?_of_block (w := w2) (w' := w6) (a := ⟨w.heap.size, 0, none⟩) (hg6.block w.heap.size (by omega) (by omega))).trans hR2.2⟩; have hr0 := hR6.1; have hf0 := hR6.2) | (go_at_call 37; refine (clauses_c (w.heap.size + 1) n k1 _ _ _ ar _ (by omega) (by omega) hdr (by omega) (hc2.below (Bel.drew0 _)) (hsv2.below (Bel.drew0 _))).mono ?_; rintro e w5 ⟨aA, cA, tA, rfl, hA, hc9, hsh, k3, hk31, hk32, hc5, hgx⟩; have hlA := And.intro hc9 hsh; have hg5 := (Chg.of_bel (lo := w.heap.size + 1) (hi := w.heap.size + 1 + 1) (Bel.drew0 w2)).trans hgx; have hS5 := hg5.cell hG1c (by omega) hbs2) | fail)
  have hzF : w2.heap.size ≤ w6.heap.size := hg6.size
  have hgF := hg2.trans hg6
  replace hsv2 := (hsv2.chg hg6 (by omega)).mono (Nat.le_refl _) hzF
  have hA2 := slCs_mono ((slCs_mono hA (show w.heap.size + 1 + 1 ≤ _ by show _ ≤ w2.heap.size + 1; omega) (Nat.le_refl _)).chg hgy (by omega)) (Nat.le_refl _) hgy.size
  obtain ⟨NE, hNE⟩ : ∃ x, x = w6.setCell ⟨w.heap.size, 0, none⟩ (.slice sa ar.length sc) := ⟨_, rfl⟩
  have hEQ : ∀ b, w.heap.size + 1 + 1 ≤ b → NE.heap[b]? = w6.heap[b]? := fun b hb => by
    rw [hNE]; rw [Below.heap_setCell _ _ _ b (by show _ ≠ _; simp only; omega)]
  have hBF : Bel w NE := by rw [hNE]; exact ((hgF.bel hB2 (by omega)).set (p := ⟨w.heap.size, 0, none⟩) (by show w.heap.size ≤ _; simp only; omega) (.slice sa ar.length sc))
  have hsz : NE.heap.size = w6.heap.size := by rw [hNE]; simp
  have c00 : NE.cell? ⟨w.heap.size, 0, none⟩ = some (.slice sa ar.length sc) := by rw [hNE]; simp [go_sem, hr0]
  rw [← hNE]
  have g1 := (hsv2.same (w' := NE) (fun b h1 _ _ => hEQ b h1)).mono (show w.heap.size ≤ w.heap.size + 1 + 1 by omega) (show w6.heap.size ≤ NE.heap.size from Nat.le_of_eq hsz.symm)
  have g3 := slCs_mono (slCs_same hA2 (w' := NE) (fun b h1 _ _ => hEQ b h1)) (show w.heap.size ≤ w.heap.size + 1 + 1 by omega) (show w6.heap.size ≤ NE.heap.size from Nat.le_of_eq hsz.symm)
  clear hEQ hNE hr0
  go_wp2_with fail
  exact bodyPost_ret (v := .tuple #[.agg #[.slice sa ar.length sc], .slice aA tA.length cA, .int .i64 (z : Int)]) (by simp [results, Try.results12, go_sem, c00]) rfl ⟨_, _, ar, tA, z, rfl, hdr, g1, g3, hlA, hz4, hBF⟩
end Go.Proofs.Ytlcjcihohclmhaa
end
section
/- The draw of WorldAt. -/
namespace Go.Proofs.Ytlcjcihohclmhaa
open Go.RowKit

set_option maxRecDepth 100000 in
set_option maxHeartbeats 2000000 in
theorem drawWorldAt_c (n : Nat) (v : Value) (w : World) (hn : n ≤ 1048576) (hv : SlB w.heap.size w v n) :
    Calls Try.prog 18 #[v] w (RetDWa w) := by
  obtain ⟨ad, cap, rfl, hcap, hr⟩ := hv
  have hv : SlB w.heap.size w (.slice ad n cap) n := ⟨ad, cap, rfl, hcap, hr⟩
  obtain ⟨W, hW⟩ : ∃ W, W = (w.alloc (.cells #[.slice none 0 0] 26)) := ⟨_, rfl⟩
  have hB1 : Bel w W := by rw [hW]; exact Bel.alloc0 _ _
  have hs1 : W.heap.size = w.heap.size + 1 := by rw [hW]; simp
  have hC := Cur.new (T := 65) (w := W) (v := .slice ad n cap) (n := n) (by
    obtain ⟨ad', cap', e, hc, hr'⟩ := hv.chg (Chg.of_bel (lo := w.heap.size) (hi := w.heap.size) hB1) (Nat.le_refl _)
    exact ⟨ad', cap', e, hc, fun hp => by obtain ⟨b, off, e1, e2, e3⟩ := hr' hp; exact ⟨b, off, e1, by omega, e3⟩⟩)
  rw [hs1] at hC
  have hB2 := hB1.step (Bel.alloc0 W (.cells #[.slice ad n cap, .int .i64 0, .int .u64 0] 65))
  have hR0 : (W.alloc (.cells #[.slice ad n cap, .int .i64 0, .int .u64 0] 65)).cell? ⟨w.heap.size, 0, none⟩ = some (.slice none 0 0) ∧ (W.alloc (.cells #[.slice ad n cap, .int .i64 0, .int .u64 0] 65)).frozen? ⟨w.heap.size, 0, none⟩ = false :=
    ⟨(Bel.alloc0 W (.cells #[.slice ad n cap, .int .i64 0, .int .u64 0] 65)).at (b := w.heap.size) (by omega) (by rw [hW]; simp [go_sem]), (World.frozen?_of_block (w := W) (a := ⟨w.heap.size, 0, none⟩) ((Bel.alloc0 W (.cells #[.slice ad n cap, .int .i64 0, .int .u64 0] 65)).block w.heap.size (by omega))).trans (by rw [hW]; simp [go_sem])⟩
  have HS := Lib.hid (smallSign_c (w.heap.size + 1) n 0 _ (by omega) (by omega) hC)
  rw [hW] at HS
  go_enter Try.func18, Try.ntmps18
  go_wp2_with fail
  refine HS.out.mono ?_; rintro e w1 ⟨sv, ar, k1, rfl, hdr, hsv, hk1, hk2, hc1, hg1⟩
  obtain ⟨sa, sc, rfl⟩ := hsv.form
  rw [← hW] at hsv hg1
  have hW0 : (W.alloc (.cells #[.slice ad n cap, .int .i64 0, .int .u64 0] 65)).heap.size = w.heap.size + 1 + 1 := by simp [hs1]
  generalize (W.alloc (.cells #[.slice ad n cap, .int .i64 0, .int .u64 0] 65)) = W0 at *
  clear hW hC HS hB1 hs1
  have hal := drawn_len hdr
  have hz1 : W0.heap.size ≤ w1.heap.size := hg1.size
  have hR1 : w1.cell? ⟨w.heap.size, 0, none⟩ = some (.slice none 0 0) ∧ w1.frozen? ⟨w.heap.size, 0, none⟩ = false := ⟨hg1.cell (by omega) (by omega) hR0.1, (World.frozen?_of_block (w := W0) (w' := w1) (a := ⟨w.heap.size, 0, none⟩) (hg1.block w.heap.size (by omega) (by omega))).trans hR0.2⟩
  rw [hW0] at hsv
  have hB3 := Bel.alloc0 w1 (.cells #[.slice sa ar.length sc] 26)
  have hs2 : (w1.alloc (.cells #[.slice sa ar.length sc] 26)).heap.size = w1.heap.size + 1 := by simp
  have hbs2 : (w1.alloc (.cells #[.slice sa ar.length sc] 26)).cell? ⟨w1.heap.size, 0, none⟩ = some (.slice sa ar.length sc) := by rw [World.cell?_alloc_new w1]; rfl
  have hc2 := hc1.below hB3
  have hsv2 := hsv.below hB3
  have hR2 : (w1.alloc (.cells #[.slice sa ar.length sc] 26)).cell? ⟨w.heap.size, 0, none⟩ = some (.slice none 0 0) ∧ (w1.alloc (.cells #[.slice sa ar.length sc] 26)).frozen? ⟨w.heap.size, 0, none⟩ = false := ⟨hB3.at (b := w.heap.size) (by omega) hR1.1, (World.frozen?_of_block (w := w1) (a := ⟨w.heap.size, 0, none⟩) (hB3.block w.heap.size (by omega))).trans hR1.2⟩
  have hg2 := hg1.trans (Chg.of_bel (lo := w.heap.size + 1) (hi := w.heap.size + 1 + 1) hB3)
  clear hc1 hg1 hR0 hR1 hB3 hsv
  generalize hw2 : w1.alloc (.cells #[.slice sa ar.length sc] 26) = w2 at *
  have hG1b : w.heap.size + 1 + 1 ≤ w1.heap.size := by omega
  replace hsv2 := hsv2.mono (Nat.le_refl _) (show _ ≤ w2.heap.size by omega)
  go_wp2_with fail
  clear hw2
  generalize w1.heap.size = G1 at *
  have hG1c : G1 < w2.heap.size := World.block_lt_of_cell? w2 ⟨G1, _, none⟩ hbs2
  have hdrew : ∀ (w' : World), (w'.cell? ⟨G1, 0, none⟩ = some (.slice sa ar.length sc)) → (w'.drew.cell? ⟨G1, 0, none⟩ = some (.slice sa ar.length sc)) := fun _ h => h
  have hsetS : ∀ (w' : World) (b o : Nat) (u : Value), b < w.heap.size + 1 + 1 → (w'.cell? ⟨G1, 0, none⟩ = some (.slice sa ar.length sc)) →
      ((w'.setCell ⟨b, o, none⟩ u).cell? ⟨G1, 0, none⟩ = some (.slice sa ar.length sc)) := fun w' b o u hlt h => by
    rw [World.cell?_setCell_other (h := by intro h; simp at h <;> omega)]; exact h
  go_region_held3 (fun w' => w'.cell? ⟨G1, 0, none⟩ = some (.slice sa ar.length sc))
    (first | (with_reducible refine hdrew _ ?_; (repeat (with_reducible refine hsetS _ _ _ _ (by omega) ?_)); with_reducible exact hbs2) | (with_reducible exact hS5) | (with_reducible exact hS6) | (with_reducible exact hS7) | ((repeat (with_reducible refine hsetS _ _ _ _ (by omega) ?_)); with_reducible exact hS7))
    (first | (go_at_call 48; refine (pick_c (w.heap.size + 1) n k4 _ 20 _ (by decide) (by omega) (by omega) (by omega) hc6).mono ?_; rintro e w7 ⟨q, k5, rfl, hq, hk51, hk52, hc7, hgz⟩; have hg7 := hg6.trans hgz; have hS7 := hg7.cell hG1c (by omega) hbs2; have hqI : (q : Int) < 20 := (by omega); have hb1 : (q : Int) / 19 ≤ 1 := (by omega); have hb0 : 0 ≤ (q : Int) / 19 := (by omega); have hpI : (p : Int) < 70 := (by omega); have hR6 : w7.cell? ⟨w.heap.size, 0, none⟩ = some (.slice none 0 0) ∧ w7.frozen? ⟨w.heap.size, 0, none⟩ = false := ⟨hg7.cell (by omega) (by omega) hR2.1, (World.frozen?_of_block (w := w2) (w' := w7) (a := ⟨w.heap.size, 0, none⟩) (hg7.block w.heap.size (by omega) (by omega))).trans hR2.2⟩; have hr0 := hR6.1; have hf0 := hR6.2) | (go_at_call 48; refine (pick_c (w.heap.size + 1) n k3 _ 70 _ (by decide) (by omega) (by omega) (by omega) hc5).mono ?_; rintro e w6 ⟨p, k4, rfl, hp, hk41, hk42, hc6, hgy⟩; have hg6 := hg5.trans hgy; have hS6 := hg6.cell hG1c (by omega) hbs2) | (go_at_call 38; refine (size_c (w.heap.size + 1) n k1 _ (by omega) (by omega) (hc2.below (Bel.drew0 _))).mono ?_; rintro e w5 ⟨z, rfl, hz4, k3, hk31, hk32, hc5, hgx⟩; have hg5 := (Chg.of_bel (lo := w.heap.size + 1) (hi := w.heap.size + 1 + 1) (Bel.drew0 w2)).trans hgx; have hS5 := hg5.cell hG1c (by omega) hbs2) | fail)
  have hzF : w2.heap.size ≤ w7.heap.size := hg7.size
  have hgF := hg2.trans hg7
  replace hsv2 := (hsv2.chg hg7 (by omega)).mono (Nat.le_refl _) hzF
  have hwq : IntKind.i64.wrap ((q : Int) / 19) = (q : Int) / 19 := by rw [IntKind.wrap_i64]; omega
  have hwp : IntKind.i64.wrap ((p : Int) - (q : Int) / 19) = (p : Int) - (q : Int) / 19 := by rw [IntKind.wrap_i64]; omega
  obtain ⟨NE, hNE⟩ : ∃ x, x = w7.setCell ⟨w.heap.size, 0, none⟩ (.slice sa ar.length sc) := ⟨_, rfl⟩
  have hEQ : ∀ b, w.heap.size + 1 + 1 ≤ b → NE.heap[b]? = w7.heap[b]? := fun b hb => by
    rw [hNE]; rw [Below.heap_setCell _ _ _ b (by show _ ≠ _; simp only; omega)]
  have hBF : Bel w NE := by rw [hNE]; exact ((hgF.bel hB2 (by omega)).set (p := ⟨w.heap.size, 0, none⟩) (by show w.heap.size ≤ _; simp only; omega) (.slice sa ar.length sc))
  have hsz : NE.heap.size = w7.heap.size := by rw [hNE]; simp
  have c00 : NE.cell? ⟨w.heap.size, 0, none⟩ = some (.slice sa ar.length sc) := by rw [hNE]; simp [go_sem, hr0]
  rw [← hNE]
  have g1 := (hsv2.same (w' := NE) (fun b h1 _ _ => hEQ b h1)).mono (show w.heap.size ≤ w.heap.size + 1 + 1 by omega) (show w7.heap.size ≤ NE.heap.size from Nat.le_of_eq hsz.symm)
  clear hEQ hNE hr0
  go_wp2_with fail
  exact bodyPost_ret (v := .tuple #[.agg #[.slice sa ar.length sc], .int .i64 (z : Int), .int .i64 ((p : Int) - (q : Int) / 19)]) (by simp [results, Try.results18, go_sem, c00, hwq, hwp]) rfl ⟨_, ar, z, _, rfl, hdr, g1, hz4, by omega, by omega, hBF⟩
end Go.Proofs.Ytlcjcihohclmhaa
end
section
/- Chapter 5, the reference: FalseAt. -/
namespace Go.Proofs.Ytlcjcihohclmhaa
open Go.RowKit

theorem SlS.in' {lo hi : Nat} {w : World} {v : Value} {xss : List (List Int)} (h : SlS lo hi w v xss) : SlS 0 w.heap.size w v xss := by
  obtain ⟨ad, cap, rfl, hc, hm, hr⟩ := h
  refine ⟨ad, cap, rfl, hc, hm, fun hp => ?_⟩
  obtain ⟨b, off, e, a1, a2, a3⟩ := hr hp
  refine ⟨b, off, e, Nat.zero_le _, ?_, fun j hj => ?_⟩
  · obtain ⟨u, h1, _⟩ := a3 0 hp; exact World.block_lt_of_cell? w ⟨b, off + 0, none⟩ h1
  · obtain ⟨u, h1, h2⟩ := a3 j hj; exact ⟨u, h1, h2.in'⟩
theorem SlC.in' {lo hi : Nat} {w : World} {v : Value} {c : List Lt} (h : SlC lo hi w v c) : SlC 0 w.heap.size w v c := by
  obtain ⟨ad, cap, rfl, hc, hm, hr⟩ := h
  refine ⟨ad, cap, rfl, hc, hm, fun hp => ?_⟩
  obtain ⟨b, off, e, a1, a2, a3⟩ := hr hp
  refine ⟨b, off, e, Nat.zero_le _, ?_, fun j hj => ?_⟩
  · obtain ⟨u1, u2, h1, _⟩ := a3 0 hp; exact World.block_lt_of_cell? w ⟨b, off + 0 * 3, none⟩ h1
  · obtain ⟨u1, u2, h1, h2, h3, h4, h5⟩ := a3 j hj; exact ⟨u1, u2, h1, h2, h3, h4.in', h5.in'⟩
theorem few_low {ar : List Int} {c : List Lt} (h : okLits ar c = true) : ∀ t ∈ flatC c, ∀ k, k < t.length → -12 ≤ t.getD k 0 := fun _ ht => low_memC (fun _ hn => ok_low (flat_ok (okLits_iff.1 h).2 ht) hn)
set_option maxRecDepth 100000 in
set_option maxHeartbeats 400000 in
theorem l5Few_c (l h : Nat) (v : Value) (ar : List Int) (c : List Lt) (w : World) (hok : okLits ar c = true) (hx : shortC c) (hv : SlC l h w v c) :
    Calls Try.prog 30 #[v] w (RetV w (.bool (fewC c))) := by
  have HV := Lib.hid (l4Vars_c l h v c w hx (few_low hok) hv)
  have hvl : (varsC c).length ≤ 12 := varsTo_len _ _
  have HV : Hid (Calls Try.prog 62 #[v] w (RetI w (natsI (varsC c)))) := HV
  unfold fewC
  have hnl := natsI_len (varsC c)
  generalize natsI (varsC c) = L at *
  rw [← hnl] at hvl ⊢
  clear hnl
  by_cases h6 : L.length ≤ 6
  · rw [decide_eq_true h6]
    go_enter Try.func30, Try.ntmps30
    go_wp2_with fail
    refine HV.out.mono ?_; rintro e w1 ⟨a1, n1, c1, rfl, o1, hb1⟩
    obtain ⟨a', c', e⟩ := o1.1.form
    simp only [Value.slice.injEq] at e
    obtain ⟨rfl, rfl, rfl⟩ := e
    go_wp2_with fail
    go_ret
    exact ⟨by simp; omega, hb1⟩
  · rw [decide_eq_false h6]
    go_enter Try.func30, Try.ntmps30
    go_wp2_with fail
    refine HV.out.mono ?_; rintro e w1 ⟨a1, n1, c1, rfl, o1, hb1⟩
    obtain ⟨a', c', e⟩ := o1.1.form
    simp only [Value.slice.injEq] at e
    obtain ⟨rfl, rfl, rfl⟩ := e
    go_wp2_with fail
    go_ret
    exact ⟨by simp; omega, hb1⟩
theorem l5Few_v (l h : Nat) (v : Value) (ar : List Int) (c : List Lt) (q : Bool) (w : World) (hq : fewC c = q) (hok : okLits ar c = true) (hx : shortC c) (hv : SlC l h w v c) :
    Calls Try.prog 30 #[v] w (RetV w (.bool q)) := by subst hq; exact l5Few_c l h v ar c w hok hx hv

set_option maxRecDepth 100000 in
set_option maxHeartbeats 1000000 in
theorem sFalseAt_t {l h l' h' l2 h2 : Nat} {v u vc : Value} {ar : List Int} {sz : Int} {tb : List (List Int)} {c : List Lt} {w : World} (ha : ar.length ≤ 1048576) (hv : SlI l h w v ar) (hx : short tb) (hu : SlS l' h' w u tb) (hcs : sumC c ≤ 1048576) (hc : SlC l2 h2 w vc c) :
    Calls Try.prog 7 #[.agg #[v], .agg #[.int .i64 sz, u], vc] w (RetIB w (falseAns ar sz tb c) (falseIs ar sz tb c)) := by
  replace hv := hv.in'
  replace hu := hu.in'
  replace hc := hc.in'
  unfold falseAns falseIs
  have HB : Bel w ((w.alloc (.cells #[v] 26)).alloc (.cells #[.int .i64 sz, u] 29)) := Bel.alloc2 _ _ _
  have HK : Hid (∀ w', Bel ((w.alloc (.cells #[v] 26)).alloc (.cells #[.int .i64 sz, u] 29)) w' → w'.cell? ⟨w.heap.size, 0, none⟩ = some v ∧ w'.cell? ⟨w.heap.size + 1, 0, none⟩ = some (.int .i64 sz) ∧ w'.cell? ⟨w.heap.size + 1, 1, none⟩ = some u) := fun w' hb =>
    ⟨hb.at (by simp; omega) (by simp [go_sem]), hb.at (by simp) (by simp [go_sem]), hb.at (by simp) (by simp [go_sem])⟩
  have EQ : falseOk ar sz tb c = (goodWorld ar sz tb && (okLits ar c && fewC c)) := rfl
  cases hg : goodWorld ar sz tb with
  | false =>
    rw [EQ, hg, Bool.false_and, if_neg (by simp), Bool.false_and]
    have HC := Lib.hid (fun (w' : World) (hb : Bel w w') => sGoodWorld_v hg ha (hv.below hb) hx (hu.below hb)); clear hg EQ
    go_enter Try.func7, Try.ntmps7
    go_wp2_with fail
    refine (HC.out _ HB).mono ?_; rintro e w1 ⟨rfl, hb1⟩
    go_wp2_with fail
    go_ret2
    exact ⟨_, _, _, rfl, OwnI.nil _ _ _, HB.step hb1⟩
  | true =>
    obtain ⟨hgs, hiw⟩ := goodWorld_iff.1 hg
    obtain ⟨z1, z3, _⟩ := isWorld_iff.1 hiw
    have HC := Lib.hid (fun (w' : World) (hb : Bel w w') => sGoodWorld_v hg ha (hv.below hb) hx (hu.below hb))
    cases hq : okLits ar c with
    | false =>
      rw [EQ, hg, hq, Bool.false_and, Bool.and_false, if_neg (by simp), Bool.false_and]
      have HT := Lib.hid (fun (w' : World) (hb : Bel w w') => l4Clause_w _ _ _ _ v vc ar c false w' hq hgs (shortC_of_sum hcs) (hv.below hb) (hc.below hb)); clear hq hg EQ
      go_enter Try.func7, Try.ntmps7
      go_wp2_with fail
      refine (HC.out _ HB).mono ?_; rintro e w1 ⟨rfl, hb1⟩
      obtain ⟨x0, x1, x2⟩ := HK.out _ hb1
      go_wp2_with fail
      refine (HT.out _ (HB.step hb1)).mono ?_; rintro e w2 ⟨rfl, hb2⟩
      go_wp2_with fail
      go_ret2
      exact ⟨_, _, _, rfl, OwnI.nil _ _ _, (HB.step hb1).step hb2⟩
    | true =>
      have HT := Lib.hid (fun (w' : World) (hb : Bel w w') => l4Clause_w _ _ _ _ v vc ar c true w' hq hgs (shortC_of_sum hcs) (hv.below hb) (hc.below hb))
      cases hp : fewC c with
      | false =>
        rw [EQ, hg, hq, hp, Bool.and_false, Bool.and_false, if_neg (by simp), Bool.false_and]
        have HE := Lib.hid (fun (w' : World) (hb : Bel w w') => l5Few_v _ _ vc ar c false w' hp hq (shortC_of_sum hcs) (hc.below hb)); clear hq hg hp EQ
        go_enter Try.func7, Try.ntmps7
        go_wp2_with fail
        refine (HC.out _ HB).mono ?_; rintro e w1 ⟨rfl, hb1⟩
        obtain ⟨x0, x1, x2⟩ := HK.out _ hb1
        go_wp2_with fail
        refine (HT.out _ (HB.step hb1)).mono ?_; rintro e w2 ⟨rfl, hb2⟩
        go_wp2_with fail
        refine (HE.out _ ((HB.step hb1).step hb2)).mono ?_; rintro e w3 ⟨rfl, hb3⟩
        go_wp2_with fail
        go_ret2
        exact ⟨_, _, _, rfl, OwnI.nil _ _ _, ((HB.step hb1).step hb2).step hb3⟩
      | true =>
        have hgk : (goodWorld ar sz tb && (okLits ar c && fewC c)) = true := by rw [hg, hq, hp]; rfl
        rw [EQ, hgk, if_pos rfl, Bool.true_and]
        obtain ⟨Z, rfl⟩ : ∃ Z : Nat, sz = (Z : Int) := ⟨sz.toNat, by omega⟩
        have HE := Lib.hid (fun (w' : World) (hb : Bel w w') => l5Few_v _ _ vc ar c true w' hp hq (shortC_of_sum hcs) (hc.below hb))
        have HV := Lib.hid (fun (w' : World) (hb : Bel w w') => l5FalseAt_c 0 w.heap.size v u vc ar Z tb c w' hgs hiw hq (shortC_of_sum hcs) hb.size (hv.below hb) (hu.below hb) (hc.below hb))
        clear hq hp hg EQ hgk
        generalize lwC ar Z tb c = R at *
        go_enter Try.func7, Try.ntmps7
        go_wp2_with fail
        refine (HC.out _ HB).mono ?_; rintro e w1 ⟨rfl, hb1⟩
        obtain ⟨x0, x1, x2⟩ := HK.out _ hb1
        go_wp2_with fail
        refine (HT.out _ (HB.step hb1)).mono ?_; rintro e w2 ⟨rfl, hb2⟩
        go_wp2_with fail
        refine (HE.out _ ((HB.step hb1).step hb2)).mono ?_; rintro e w3 ⟨rfl, hb3⟩
        obtain ⟨v0, v1, v2⟩ := HK.out _ ((hb1.step hb2).step hb3)
        go_wp2_with fail
        refine (HV.out _ (((HB.step hb1).step hb2).step hb3)).mono ?_; rintro e w4 ⟨a4, n4, c4, rfl, o4, hb4⟩
        go_wp2_with fail
        go_ret2
        exact ⟨_, _, _, rfl, o4.mono (((HB.step hb1).step hb2).step hb3).size (Nat.le_refl _), (((HB.step hb1).step hb2).step hb3).step hb4⟩
end Go.Proofs.Ytlcjcihohclmhaa
end
section
/- Chapter 5, the program: falseAt. -/
namespace Go.Proofs.Ytlcjcihohclmhaa
open Go.RowKit

set_option maxRecDepth 100000 in
set_option maxHeartbeats 4000000 in
theorem falseAt_c (v u vc : Value) (ar : List Int) (Z : Nat) (tb : List (List Int)) (c : List Lt) (w : World) (hg : goodSign ar = true) (hw : isWorld ar Z tb = true) (hok : okLits ar c = true) (hsh : sumL (flatC c) ≤ 1048576)
    (hv : SlI 0 w.heap.size w v ar) (hu : SlS 0 w.heap.size w u tb) (hc : SlC 0 w.heap.size w vc c) :
    Calls Try.prog 27 #[.agg #[v], .agg #[.int .i64 (Z : Int), u], vc] w (RetFA w (lwC ar Z tb c)) := by
  obtain ⟨z1, z3, _⟩ := isWorld_iff.1 hw
  have h8 := (okLits_iff.1 hok).1
  have HOK := Lib.hid (fun k hk => okLits_get (okLits_iff.1 hok).2 k hk)
  obtain ⟨ac, kc, rfl⟩ := hc.form
  have hmk := make12
  have HT := Lib.hid (fun (x : Lt) (u1 u2 : Value) (w' : World) (hs : w.heap.size ≤ w'.heap.size) (o1 : okTerm ar x.2.1 = true) (o2 : okTerm ar x.2.2 = true) (hv' : SlI 0 w.heap.size w' v ar) (hu' : SlS 0 w.heap.size w' u tb) (s1 : SlI 0 w.heap.size w' u1 x.2.1) (s2 : SlI 0 w.heap.size w' u2 x.2.2) =>
    litTest_r ar Z tb w.heap.size x v u u1 u2 w' (by omega) (by omega) hs o1 o2 hv' hu' s1 s2)
  go_enter Try.func27, Try.ntmps27
  go_wp2_with fail
  obtain ⟨W, hW⟩ : ∃ W, W = ((w.alloc (.cells #[v] 26)).alloc (.cells #[.int .i64 (Z : Int), u] 29)).alloc (.cells #[.slice none 0 0] 82) := ⟨_, rfl⟩
  have hB : Bel w W := by rw [hW]; exact Bel.alloc3 _ _ _ _
  have zW : W.heap.size = w.heap.size + 1 + 1 + 1 := by rw [hW]; simp
  have k0 : W.cell? ⟨w.heap.size, 0, none⟩ = some v := by rw [hW]; simp [go_sem]
  have k1 : W.cell? ⟨w.heap.size + 1, 0, none⟩ = some (.int .i64 (Z : Int)) := by rw [hW]; simp [go_sem]
  have k2 : W.cell? ⟨w.heap.size + 1, 1, none⟩ = some u := by rw [hW]; simp [go_sem]
  have k3 : W.cell? ⟨w.heap.size + 1 + 1, 0, none⟩ = some (.slice none 0 0) := by rw [hW]; simp [go_sem]
  have k4 : W.frozen? ⟨w.heap.size + 1 + 1, 0, none⟩ = false := by rw [hW]; simp [go_sem]
  rw [← hW]
  clear hW
  have HZW := Lib.hid zW
  clear zW
  go_loopw [15] (fun i wr => ∃ (k : Nat) (tv : Value) (rs : List TR), k ≤ c.length ∧ i = .int .i64 k ∧ wr.cell? ⟨w.heap.size + 1 + 1, 0, none⟩ = some tv ∧ wr.frozen? ⟨w.heap.size + 1 + 1, 0, none⟩ = false ∧ Col ar Z tb w.heap.size v u tv (c.take k) rs wr ∧ Below (w.heap.size + 1 + 1) W wr) (fun i _ => c.length - (intOf i).toNat)
  case atStart => exact ⟨0, _, [], Nat.zero_le _, rfl, k3, k4, Col.nil, Below.refl _ _⟩
  case round =>
    obtain ⟨k, tv, rs, hk, rfl, hc3, hf3, hcol, hbl⟩ := hrel
    have hbw : Bel w wr := hB.trans (hbl.mono (by omega))
    have zr : w.heap.size + 1 + 1 < wr.heap.size := Nat.lt_of_lt_of_le (by have := HZW.out; omega) hbl.size
    have q0 := (hbl.cell (p := ⟨w.heap.size, 0, none⟩) (by show w.heap.size < _; omega)).trans k0
    have q1 := (hbl.cell (p := ⟨w.heap.size + 1, 0, none⟩) (Nat.lt_succ_self _)).trans k1
    have q2 := (hbl.cell (p := ⟨w.heap.size + 1, 1, none⟩) (Nat.lt_succ_self _)).trans k2
    by_cases hlt : k < c.length
    · obtain ⟨bc, offc, u1, u2, rfl, hbc, c1, c2, c3, s1, s2⟩ := hc.at hbw k hlt
      have hox := HOK.out k hlt
      have htk : Hid (c.take (k+1) = c.take k ++ [c.getD k lt0]) := by
        show _ = _
        rw [List.take_succ_eq_append_getElem hlt]; simp [List.getD, hlt]
      generalize c.getD k lt0 = x at *
      obtain ⟨a1, d1, rfl⟩ := s1.form
      obtain ⟨a2, d2, rfl⟩ := s2.form
      have HA1 : Bel wr (wr.alloc (.cells #[.bool x.1, (.slice a1 x.2.1.length d1), (.slice a2 x.2.2.length d2)] 60)).drew := (Bel.alloc0 _ _).drew
      have HZ1 : Hid ((wr.alloc (.cells #[.bool x.1, (.slice a1 x.2.1.length d1), (.slice a2 x.2.2.length d2)] 60)).drew.heap.size = wr.heap.size + 1) := by show _ = _; simp
      have KX : Hid (∀ w', Bel (wr.alloc (.cells #[.bool x.1, (.slice a1 x.2.1.length d1), (.slice a2 x.2.2.length d2)] 60)).drew w' → (w'.cell? ⟨w.heap.size, 0, none⟩ = some v ∧ w'.cell? ⟨w.heap.size + 1, 0, none⟩ = some (.int .i64 (Z : Int)) ∧ w'.cell? ⟨w.heap.size + 1, 1, none⟩ = some u) ∧ w'.cell? ⟨w.heap.size + 1 + 1, 0, none⟩ = some tv ∧ w'.cell? ⟨wr.heap.size, 0, none⟩ = some (.bool x.1) ∧ w'.cell? ⟨wr.heap.size, 1, none⟩ = some (.slice a1 x.2.1.length d1) ∧ w'.cell? ⟨wr.heap.size, 2, none⟩ = some (.slice a2 x.2.2.length d2)) := fun w' hq =>
        ⟨⟨(HA1.step hq).at (by omega) q0, (HA1.step hq).at (by omega) q1, (HA1.step hq).at (by omega) q2⟩, (HA1.step hq).at zr hc3, hq.at (by simp) (by simp [go_sem]), hq.at (by simp) (by simp [go_sem]), hq.at (by simp) (by simp [go_sem])⟩
      have HC1 := Lib.hid (HT.out x _ _ (wr.alloc (.cells #[.bool x.1, (.slice a1 x.2.1.length d1), (.slice a2 x.2.2.length d2)] 60)).drew (hbw.step HA1).size hox.1 hox.2 (hv.below (hbw.step HA1)) (hu.below (hbw.step HA1)) (s1.below HA1) (s2.below HA1))
      have HCOL := Lib.hid hcol
      have hrl : rs.length ≤ 1048576 := by have := hcol.tests.1; rw [List.length_take] at this; omega
      have hfz := hf3
      clear hcol hox s1 s2 hv hu hc HT HOK
      go_wp2_with fail
      have m0 := KX.out _ (Bel.rfl' _)
      obtain ⟨⟨m00, m01, m02⟩, m03, m04, m05, m06⟩ := m0
      go_region_law
        (first
          | (refine step_append_fn rfl (.tmp 19) (.tmp 24) 25 rfl rfl (w.heap.size + 3) _ rs rfl R5 w4.heap.size r rfl HN hrl HZ5 ?_; intro b6 k6 w6 R6 hg6 hb6; have B6 := ((Below.refl (w.heap.size + 3) wr).trans (hBW5.mono (Nat.succ_le_of_lt zr))).grown hg6 HZ5 (fun q hq => (own_lt R5 hq).1); have t3 := (B6.cell (p := ⟨w.heap.size + 1 + 1, 0, none⟩) (Nat.lt_succ_self _)).trans hc3; have f3 := (B6.frozen (p := ⟨w.heap.size + 1 + 1, 0, none⟩) (Nat.lt_succ_self _)).trans hf3)
          | (go_simp; go_at_call 56; refine HC1.out.mono ?_; rintro e w4 ⟨r, rfl, hr4, hlo, hhi, hb4⟩; have hBW5 := HA1.step (hb4.alloc (.cells #[.func (.func 75) #[] #[.pointer (some ⟨r.p7, 0, none⟩), .pointer (some ⟨r.p4, 0, none⟩), .pointer (some ⟨r.p8, 0, none⟩), .pointer (some ⟨r.p3, 0, none⟩), .pointer (some ⟨r.p5, 0, none⟩)]] 83)); have R5 : RowF (w.heap.size + 3) (w4.alloc (.cells #[.func (.func 75) #[] #[.pointer (some ⟨r.p7, 0, none⟩), .pointer (some ⟨r.p4, 0, none⟩), .pointer (some ⟨r.p8, 0, none⟩), .pointer (some ⟨r.p3, 0, none⟩), .pointer (some ⟨r.p5, 0, none⟩)]] 83)) tv rs := ownsRow_bel HCOL.out.row hBW5; have HN := news_one w4 r.f 83; have l4 := (KX.out _ hb4).2.1; have l5 := (KX.out _ (hb4.alloc (.cells #[.func (.func 75) #[] #[.pointer (some ⟨r.p7, 0, none⟩), .pointer (some ⟨r.p4, 0, none⟩), .pointer (some ⟨r.p8, 0, none⟩), .pointer (some ⟨r.p3, 0, none⟩), .pointer (some ⟨r.p5, 0, none⟩)]] 83))).2.1; have HZ5 : w.heap.size + 3 ≤ (w4.alloc (.cells #[.func (.func 75) #[] #[.pointer (some ⟨r.p7, 0, none⟩), .pointer (some ⟨r.p4, 0, none⟩), .pointer (some ⟨r.p8, 0, none⟩), .pointer (some ⟨r.p3, 0, none⟩), .pointer (some ⟨r.p5, 0, none⟩)]] 83)).heap.size := Nat.le_trans (Nat.succ_le_of_lt zr) hBW5.size)
          | fail)
      all_goals
        go_wp2_with fail
        go_roundw
        case rel =>
          have hA := HCOL.out.bel hBW5
          have hc6 := hA.snoc (x := x) (hr4.chg (Chg.of_bel (lo := 0) (hi := 0) (Bel.alloc0 w4 (.cells #[.func (.func 75) #[] #[.pointer (some ⟨r.p7, 0, none⟩), .pointer (some ⟨r.p4, 0, none⟩), .pointer (some ⟨r.p8, 0, none⟩), .pointer (some ⟨r.p3, 0, none⟩), .pointer (some ⟨r.p5, 0, none⟩)]] 83))) (.inl (Nat.zero_le _)) (.inl (Nat.zero_le _))) (by rw [hlo]; have := HZ1.out; omega) (fun s hs => by have := HCOL.out.tests.cur hs; rw [hlo]; have := HZ1.out; omega) (fun g hg => by have := own_lt HCOL.out.row hg; rw [hlo]; have := HZ1.out; omega) R6 hg6 hb6
          refine ⟨k+1, _, rs ++ [r], by omega, by go_num, World.cell?_setCell_same _ _ _ t3, by rw [World.frozen?_setCell]; exact f3, ?_, Below.setCell (hbl.trans (B6.mono (Nat.le_succ _))) (Nat.le_refl _) _⟩
          rw [htk.out]
          exact hc6.low (by show w.heap.size ≤ w.heap.size + 1 + 1; omega) (Nat.lt_succ_self _) _
        case measure => simp [intOf]; omega
    · obtain rfl : k = c.length := by omega
      rw [List.take_length] at hcol
      obtain ⟨ad, cap, hts, hbt⟩ := hcol.ts hc3 zr
      have hD : Bel wr (wr.alloc (.cells #[.int .i64 0, .int .i64 0, .int .i64 0, .int .i64 0, .int .i64 0, .int .i64 0, .int .i64 0, .int .i64 0, .int .i64 0, .int .i64 0, .int .i64 0, .int .i64 0] 3)).drew := (Bel.alloc0 _ _).drew
      have HDZ : Hid ((wr.alloc (.cells #[.int .i64 0, .int .i64 0, .int .i64 0, .int .i64 0, .int .i64 0, .int .i64 0, .int .i64 0, .int .i64 0, .int .i64 0, .int .i64 0, .int .i64 0, .int .i64 0] 3)).drew.heap.size = wr.heap.size + 1) := by show _ = _; simp
      have hzo := (zeros_own wr).below ((Bel.rfl' _).drew)
      have HV := Lib.hid (clauseVars_c hsh h8 (fun k hk => by
        have hm := mem_gd _ 0 k hk
        rw [List.mem_flatten] at hm
        obtain ⟨t, ht, hn⟩ := hm
        exact ok_low (flat_ok (okLits_iff.1 hok).2 ht) hn) (hc.below (hbw.step hD)))
      have HLW : Hid (∀ (w2 : World) (vv : Value), Bel (wr.alloc (.cells #[.int .i64 0, .int .i64 0, .int .i64 0, .int .i64 0, .int .i64 0, .int .i64 0, .int .i64 0, .int .i64 0, .int .i64 0, .int .i64 0, .int .i64 0, .int .i64 0] 3)).drew w2 → SlI (wr.heap.size + 1) w2.heap.size w2 vv (natsI (varsC c)) → Calls Try.prog 58 #[.func (.func 57) #[] #[.pointer (some ⟨w.heap.size + 1 + 1, 0, none⟩)], .slice (some ⟨wr.heap.size, 0, none⟩) 12 12, vv, .int .i64 (Z : Int)] w2 (RetLW ar Z tb 0 w.heap.size v u (w.heap.size + 3) wr.heap.size (w.heap.size + 1 + 1) ad cap c rs wr.heap.size (.slice (some ⟨wr.heap.size, 0, none⟩) 12 12) (varsC c) zeros12 w2 (lwC ar Z tb c))) := fun w2 vv hb2 hs2 =>
        leastWhere_c hg hw hok wr.heap.size (Nat.le_refl _) hbw.size hbt (varsC c) zeros12 w2 vv _ (wr.heap.size + 1) w2.heap.size varsC_lt (varsTo_len _ _) (zeros_ok (by omega)) (hts.chg (Chg.of_bel (lo := wr.heap.size) (hi := wr.heap.size) (hD.step hb2)) (Nat.le_refl _) hbw.size (fun bT h => .inl (hbt bT h))) hs2 (hzo.below hb2) (.inr (Nat.le_refl _))
      have HVC : Hid (varsTo (mk (flatC c).flatten) 12 = varsC c) := rfl
      rw [show varsTo (mk (flatC c).flatten) 12 = varsC c from rfl] at HV
      have q1' := hD.at (by omega) q1
      have HBW := Lib.hid (hbw.step hD)
      have hlt9 : w.heap.size + 1 < wr.heap.size := by omega
      clear hts hcol hc hv hu hc3 hf3 HT HOK hok hw hg
      generalize lwC ar Z tb c = R at *
      cases R with
      | none =>
        go_wp2_with fail
        go_region_held3 (fun w' => w'.cell? ⟨w.heap.size + 1, 0, none⟩ = some (.int .i64 (Z : Int)))
          (first | exact q1' | exact t1 | exact t9 | fail)
          (first
            | (go_at_call 58; refine (HLW.out _ _ hb2 (o2.sl.mono (by rw [HDZ.out]; exact Nat.le_refl _) (Nat.le_refl _))).mono ?_; rintro e w9 ⟨rfl, ts9, cg9, e9, o9, f9, k9, r9⟩; have t9 := cg9.cell (Nat.lt_trans hlt9 (Nat.lt_of_lt_of_le (Nat.lt_succ_self _) (Nat.le_trans (Nat.le_of_eq HDZ.out.symm) hb2.size))) (.inl (Nat.lt_succ_of_lt (Nat.lt_succ_self _))) t1)
            | (go_at_call 59; refine HV.out.mono ?_; rintro e w2 ⟨a2, n2, c2, rfl, o2, hb2⟩; have t1 := hb2.at (Nat.lt_trans hlt9 (Nat.lt_of_lt_of_le (Nat.lt_succ_self _) (Nat.le_of_eq HDZ.out.symm))) q1')
            | fail)
        all_goals
          go_wp2_with fail
          go_ret2
          exact ⟨_, _, _, rfl, OwnI.nil _ _ _, cg9.bel (HBW.out.step hb2) (by omega)⟩
      | some r =>
        go_wp2_with fail
        go_region_held3 (fun w' => w'.cell? ⟨w.heap.size + 1, 0, none⟩ = some (.int .i64 (Z : Int)))
          (first | exact q1' | exact t1 | exact t9 | fail)
          (first
            | (go_at_call 58; refine (HLW.out _ _ hb2 (o2.sl.mono (by rw [HDZ.out]; exact Nat.le_refl _) (Nat.le_refl _))).mono ?_; rintro e w9 ⟨rfl, ts9, cg9, e9, o9, f9, k9, r9⟩; have t9 := cg9.cell (Nat.lt_trans hlt9 (Nat.lt_of_lt_of_le (Nat.lt_succ_self _) (Nat.le_trans (Nat.le_of_eq HDZ.out.symm) hb2.size))) (.inl (Nat.lt_succ_of_lt (Nat.lt_succ_self _))) t1)
            | (go_at_call 59; refine HV.out.mono ?_; rintro e w2 ⟨a2, n2, c2, rfl, o2, hb2⟩; have t1 := hb2.at (Nat.lt_trans hlt9 (Nat.lt_of_lt_of_le (Nat.lt_succ_self _) (Nat.le_of_eq HDZ.out.symm))) q1')
            | fail)
        all_goals
          go_wp2_with fail
          go_ret2
          obtain rfl := r9 _ rfl
          exact ⟨_, _, _, rfl, o9.mono hbw.size (by have := cg9.size; have := hb2.size; have := HDZ.out; omega), cg9.bel (HBW.out.step hb2) (by omega)⟩
end Go.Proofs.Ytlcjcihohclmhaa
end
section
/- Chapter 5, the program: FalseAt. -/
namespace Go.Proofs.Ytlcjcihohclmhaa
open Go.RowKit

theorem triable_one {ar : List Int} (c : List Lt) (hg : goodSign ar = true) : triable ar [c] = (okLits ar c && fewC c) := by
  unfold triable goodClause
  rw [hg]
  simp
theorem areTriable_v {l h l' h' : Nat} {v vc : Value} {ar : List Int} {cs : List (List Lt)} {q : Bool} {w : World} (hq : triable ar cs = q) (ha : ar.length ≤ 1048576) (hv : SlI l h w v ar) (hs : ∀ k, k < cs.length → sumC (cs.getD k []) ≤ 1048576) (hc : SlCs l' h' w vc cs) :
    Calls Try.prog 26 #[.agg #[v], vc] w (RetV w (.bool q)) := by subst hq; exact areTriable_c l h l' h' v vc ar cs w ha hv hs hc

set_option maxRecDepth 100000 in
set_option maxHeartbeats 1000000 in
theorem iFalseAt_t {l h l' h' l2 h2 : Nat} {v u vc : Value} {ar : List Int} {sz : Int} {tb : List (List Int)} {c : List Lt} {w : World} (ha : ar.length ≤ 1048576) (hv : SlI l h w v ar) (hx : short tb) (hu : SlS l' h' w u tb) (hcs : sumC c ≤ 1048576) (hc : SlC l2 h2 w vc c) :
    Calls Try.prog 6 #[.agg #[v], .agg #[.int .i64 sz, u], vc] w (RetIB w (falseAns ar sz tb c) (falseIs ar sz tb c)) := by
  replace hv := hv.in'
  replace hu := hu.in'
  replace hc := hc.in'
  obtain ⟨ac, kc, rfl⟩ := hc.form
  unfold falseAns falseIs
  have HB : Bel w ((w.alloc (.cells #[v] 26)).alloc (.cells #[.int .i64 sz, u] 29)) := Bel.alloc2 _ _ _
  have HK : Hid (∀ w', Bel ((w.alloc (.cells #[v] 26)).alloc (.cells #[.int .i64 sz, u] 29)) w' → w'.cell? ⟨w.heap.size, 0, none⟩ = some v ∧ w'.cell? ⟨w.heap.size + 1, 0, none⟩ = some (.int .i64 sz) ∧ w'.cell? ⟨w.heap.size + 1, 1, none⟩ = some u) := fun w' hb =>
    ⟨hb.at (by simp; omega) (by simp [go_sem]), hb.at (by simp) (by simp [go_sem]), hb.at (by simp) (by simp [go_sem])⟩
  have EQ : falseOk ar sz tb c = (goodWorld ar sz tb && (okLits ar c && fewC c)) := rfl
  cases hg : goodWorld ar sz tb with
  | false =>
    rw [EQ, hg, Bool.false_and, if_neg (by simp), Bool.false_and]
    have HC := Lib.hid (fun (w' : World) (hb : Bel w w') => iGoodWorld_v hg ha (hv.below hb) hx (hu.below hb)); clear hg EQ
    go_enter Try.func6, Try.ntmps6
    go_wp2_with fail
    refine (HC.out _ HB).mono ?_; rintro e w1 ⟨rfl, hb1⟩
    go_wp2_with fail
    go_ret2
    exact ⟨_, _, _, rfl, OwnI.nil _ _ _, HB.step hb1⟩
  | true =>
    obtain ⟨hgs, hiw⟩ := goodWorld_iff.1 hg
    obtain ⟨z1, z3, _⟩ := isWorld_iff.1 hiw
    have HC := Lib.hid (fun (w' : World) (hb : Bel w w') => iGoodWorld_v hg ha (hv.below hb) hx (hu.below hb))
    have HSC : ∀ k, k < [c].length → sumC ([c].getD k []) ≤ 1048576 := fun k hk => by
      obtain rfl : k = 0 := by simp at hk; omega
      exact hcs
    have HT := Lib.hid (fun (w' : World) (hb : Bel w w') => areTriable_v (triable_one c hgs) ha ((hv.below hb).alloc (.cells #[.slice ac c.length kc] 30)) HSC (slcs_one (t := 30) w'.heap.size rfl (hc.below hb).in'))
    cases hq : (okLits ar c && fewC c) with
    | false =>
      rw [EQ, hg, hq, Bool.true_and, if_neg (by simp), Bool.false_and]
      rw [hq] at HT
      clear hq hg EQ
      go_enter Try.func6, Try.ntmps6
      go_wp2_with fail
      refine (HC.out _ HB).mono ?_; rintro e w1 ⟨rfl, hb1⟩
      obtain ⟨x0, x1, x2⟩ := HK.out _ hb1
      go_wp2_with fail
      refine (HT.out _ (HB.step hb1)).mono ?_; rintro e w2 ⟨rfl, hb2⟩
      go_wp2_with fail
      go_ret2
      exact ⟨_, _, _, rfl, OwnI.nil _ _ _, (HB.step hb1).step ((Bel.alloc0 _ _).step hb2)⟩
    | true =>
      have hgk : (goodWorld ar sz tb && (okLits ar c && fewC c)) = true := by rw [hg, hq]; rfl
      rw [EQ, hgk, if_pos rfl, Bool.true_and]
      rw [hq] at HT
      rw [Bool.and_eq_true] at hq
      obtain ⟨Z, rfl⟩ : ∃ Z : Nat, sz = (Z : Int) := ⟨sz.toNat, by omega⟩
      have HV := Lib.hid (fun (w' : World) (hb : Bel w w') => falseAt_c v u (.slice ac c.length kc) ar Z tb c w' hgs hiw hq.1 (short_flat hcs).1 (hv.below hb).in' (hu.below hb).in' (hc.below hb).in')
      clear hq hg EQ hgk
      generalize lwC ar Z tb c = R at *
      go_enter Try.func6, Try.ntmps6
      go_wp2_with fail
      refine (HC.out _ HB).mono ?_; rintro e w1 ⟨rfl, hb1⟩
      obtain ⟨x0, x1, x2⟩ := HK.out _ hb1
      go_wp2_with fail
      refine (HT.out _ (HB.step hb1)).mono ?_; rintro e w2 ⟨rfl, hb2⟩
      have hb12 := hb1.step ((Bel.alloc0 _ _).step hb2)
      obtain ⟨v0, v1, v2⟩ := HK.out _ hb12
      go_wp2_with fail
      refine (HV.out _ (HB.step hb12)).mono ?_; rintro e w4 ⟨a4, n4, c4, rfl, o4, hb4⟩
      go_wp2_with fail
      go_ret2
      exact ⟨_, _, _, rfl, o4.mono (HB.step hb12).size (Nat.le_refl _), (HB.step hb12).step hb4⟩
end Go.Proofs.Ytlcjcihohclmhaa
end
section
/- Chapter 5, the reference: HoldsIn. -/
namespace Go.Proofs.Ytlcjcihohclmhaa
open Go.RowKit

def heldC (ar : List Int) (sz : Int) (tb : List (List Int)) (c : List Lt) : Bool := !(lwC ar sz tb c).isSome
def heldAns (ar : List Int) (sz : Int) (tb : List (List Int)) (c : List Lt) : Bool := if falseOk ar sz tb c then heldC ar sz tb c else false
set_option maxRecDepth 100000 in
set_option maxHeartbeats 400000 in
theorem l5Holds_c (v u vc : Value) (ar : List Int) (Z : Nat) (tb : List (List Int)) (c : List Lt) (w : World) (hg : goodSign ar = true) (hw : isWorld ar Z tb = true) (hok : okLits ar c = true) (hsh : shortC c)
    (hv : SlI 0 w.heap.size w v ar) (hu : SlS 0 w.heap.size w u tb) (hc : SlC 0 w.heap.size w vc c) :
    Calls Try.prog 32 #[.agg #[v], .agg #[.int .i64 (Z : Int), u], vc] w (RetV w (.bool (heldC ar Z tb c))) := by
  have HB : Bel w ((w.alloc (.cells #[v] 26)).alloc (.cells #[.int .i64 (Z : Int), u] 29)) := Bel.alloc2 _ _ _
  have HV := Lib.hid (l5FalseAt_c 0 w.heap.size v u vc ar Z tb c _ hg hw hok hsh HB.size (hv.below HB) (hu.below HB) (hc.below HB))
  unfold heldC
  generalize lwC ar Z tb c = R at *
  go_enter Try.func32, Try.ntmps32
  go_wp2_with fail
  refine HV.out.mono ?_; rintro e w4 ⟨a4, n4, c4, rfl, o4, hb4⟩
  go_wp2_with fail
  go_ret
  exact ⟨by cases R <;> rfl, HB.step hb4⟩

set_option maxRecDepth 100000 in
set_option maxHeartbeats 1000000 in
theorem sHoldsIn_t {l h l' h' l2 h2 : Nat} {v u vc : Value} {ar : List Int} {sz : Int} {tb : List (List Int)} {c : List Lt} {w : World} (ha : ar.length ≤ 1048576) (hv : SlI l h w v ar) (hx : short tb) (hu : SlS l' h' w u tb) (hcs : sumC c ≤ 1048576) (hc : SlC l2 h2 w vc c) :
    Calls Try.prog 9 #[.agg #[v], .agg #[.int .i64 sz, u], vc] w (RetV w (.tuple #[.bool (heldAns ar sz tb c), .bool (falseOk ar sz tb c)])) := by
  replace hv := hv.in'
  replace hu := hu.in'
  replace hc := hc.in'
  unfold heldAns
  have HB : Bel w ((w.alloc (.cells #[v] 26)).alloc (.cells #[.int .i64 sz, u] 29)) := Bel.alloc2 _ _ _
  have HK : Hid (∀ w', Bel ((w.alloc (.cells #[v] 26)).alloc (.cells #[.int .i64 sz, u] 29)) w' → w'.cell? ⟨w.heap.size, 0, none⟩ = some v ∧ w'.cell? ⟨w.heap.size + 1, 0, none⟩ = some (.int .i64 sz) ∧ w'.cell? ⟨w.heap.size + 1, 1, none⟩ = some u) := fun w' hb =>
    ⟨hb.at (by simp; omega) (by simp [go_sem]), hb.at (by simp) (by simp [go_sem]), hb.at (by simp) (by simp [go_sem])⟩
  have EQ : falseOk ar sz tb c = (goodWorld ar sz tb && (okLits ar c && fewC c)) := rfl
  cases hg : goodWorld ar sz tb with
  | false =>
    rw [EQ, hg, Bool.false_and, if_neg (by simp)]
    have HC := Lib.hid (fun (w' : World) (hb : Bel w w') => sGoodWorld_v hg ha (hv.below hb) hx (hu.below hb)); clear hg EQ
    go_enter Try.func9, Try.ntmps9
    go_wp2_with fail
    refine (HC.out _ HB).mono ?_; rintro e w1 ⟨rfl, hb1⟩
    go_wp2_with fail
    go_ret2
    exact ⟨rfl, HB.step hb1⟩
  | true =>
    obtain ⟨hgs, hiw⟩ := goodWorld_iff.1 hg
    obtain ⟨z1, z3, _⟩ := isWorld_iff.1 hiw
    have HC := Lib.hid (fun (w' : World) (hb : Bel w w') => sGoodWorld_v hg ha (hv.below hb) hx (hu.below hb))
    cases hq : okLits ar c with
    | false =>
      rw [EQ, hg, hq, Bool.false_and, Bool.and_false, if_neg (by simp)]
      have HT := Lib.hid (fun (w' : World) (hb : Bel w w') => l4Clause_w _ _ _ _ v vc ar c false w' hq hgs (shortC_of_sum hcs) (hv.below hb) (hc.below hb)); clear hq hg EQ
      go_enter Try.func9, Try.ntmps9
      go_wp2_with fail
      refine (HC.out _ HB).mono ?_; rintro e w1 ⟨rfl, hb1⟩
      obtain ⟨x0, x1, x2⟩ := HK.out _ hb1
      go_wp2_with fail
      refine (HT.out _ (HB.step hb1)).mono ?_; rintro e w2 ⟨rfl, hb2⟩
      go_wp2_with fail
      go_ret2
      exact ⟨rfl, (HB.step hb1).step hb2⟩
    | true =>
      have HT := Lib.hid (fun (w' : World) (hb : Bel w w') => l4Clause_w _ _ _ _ v vc ar c true w' hq hgs (shortC_of_sum hcs) (hv.below hb) (hc.below hb))
      cases hp : fewC c with
      | false =>
        rw [EQ, hg, hq, hp, Bool.and_false, Bool.and_false, if_neg (by simp)]
        have HE := Lib.hid (fun (w' : World) (hb : Bel w w') => l5Few_v _ _ vc ar c false w' hp hq (shortC_of_sum hcs) (hc.below hb)); clear hq hg hp EQ
        go_enter Try.func9, Try.ntmps9
        go_wp2_with fail
        refine (HC.out _ HB).mono ?_; rintro e w1 ⟨rfl, hb1⟩
        obtain ⟨x0, x1, x2⟩ := HK.out _ hb1
        go_wp2_with fail
        refine (HT.out _ (HB.step hb1)).mono ?_; rintro e w2 ⟨rfl, hb2⟩
        go_wp2_with fail
        refine (HE.out _ ((HB.step hb1).step hb2)).mono ?_; rintro e w3 ⟨rfl, hb3⟩
        go_wp2_with fail
        go_ret2
        exact ⟨rfl, ((HB.step hb1).step hb2).step hb3⟩
      | true =>
        have hgk : (goodWorld ar sz tb && (okLits ar c && fewC c)) = true := by rw [hg, hq, hp]; rfl
        rw [EQ, hgk, if_pos rfl]
        obtain ⟨Z, rfl⟩ : ∃ Z : Nat, sz = (Z : Int) := ⟨sz.toNat, by omega⟩
        have HE := Lib.hid (fun (w' : World) (hb : Bel w w') => l5Few_v _ _ vc ar c true w' hp hq (shortC_of_sum hcs) (hc.below hb))
        have HV := Lib.hid (fun (w' : World) (hb : Bel w w') => l5Holds_c v u vc ar Z tb c w' hgs hiw hq (shortC_of_sum hcs) (hv.below hb).in' (hu.below hb).in' (hc.below hb).in')
        clear hq hp hg EQ hgk
        generalize heldC ar Z tb c = R at *
        go_enter Try.func9, Try.ntmps9
        go_wp2_with fail
        refine (HC.out _ HB).mono ?_; rintro e w1 ⟨rfl, hb1⟩
        obtain ⟨x0, x1, x2⟩ := HK.out _ hb1
        go_wp2_with fail
        refine (HT.out _ (HB.step hb1)).mono ?_; rintro e w2 ⟨rfl, hb2⟩
        go_wp2_with fail
        refine (HE.out _ ((HB.step hb1).step hb2)).mono ?_; rintro e w3 ⟨rfl, hb3⟩
        obtain ⟨v0, v1, v2⟩ := HK.out _ ((hb1.step hb2).step hb3)
        go_wp2_with fail
        refine (HV.out _ (((HB.step hb1).step hb2).step hb3)).mono ?_; rintro e w4 ⟨rfl, hb4⟩
        go_wp2_with fail
        go_ret2
        exact ⟨rfl, (((HB.step hb1).step hb2).step hb3).step hb4⟩
end Go.Proofs.Ytlcjcihohclmhaa
end
section
/- Chapter 5, the program: AllHold and HoldsIn. -/
namespace Go.Proofs.Ytlcjcihohclmhaa
open Go.RowKit

def heldAll (ar : List Int) (sz : Int) (tb : List (List Int)) (cs : List (List Lt)) : Bool := cs.all (heldC ar sz tb)
def allOk (ar : List Int) (sz : Int) (tb : List (List Int)) (cs : List (List Lt)) : Bool := goodWorld ar sz tb && triable ar cs
def allAns (ar : List Int) (sz : Int) (tb : List (List Int)) (cs : List (List Lt)) : Bool := if allOk ar sz tb cs then heldAll ar sz tb cs else false
theorem SlCs.in' {lo hi : Nat} {w : World} {v : Value} {cs : List (List Lt)} (h : SlCs lo hi w v cs) : SlCs 0 w.heap.size w v cs := by
  obtain ⟨ad, cap, rfl, hc, hm, hr⟩ := h
  refine ⟨ad, cap, rfl, hc, hm, fun hp => ?_⟩
  obtain ⟨b, off, e, a1, a2, a3⟩ := hr hp
  refine ⟨b, off, e, Nat.zero_le _, ?_, fun j hj => ?_⟩
  · obtain ⟨u, h1, _⟩ := a3 0 hp; exact World.block_lt_of_cell? w ⟨b, off + 0, none⟩ h1
  · obtain ⟨u, h1, h2⟩ := a3 j hj; exact ⟨u, h1, h2.in'⟩

set_option maxRecDepth 100000 in
set_option maxHeartbeats 1000000 in
theorem allHold_c (v u vc : Value) (ar : List Int) (Z : Nat) (tb : List (List Int)) (cs : List (List Lt)) (w : World) (hg : goodSign ar = true) (hw : isWorld ar Z tb = true) (hok : ∀ k, k < cs.length → okLits ar (cs.getD k []) = true) (hs : ∀ k, k < cs.length → sumC (cs.getD k []) ≤ 1048576) (h40 : cs.length ≤ 40)
    (hv : SlI 0 w.heap.size w v ar) (hu : SlS 0 w.heap.size w u tb) (hc : SlCs 0 w.heap.size w vc cs) :
    Calls Try.prog 40 #[.agg #[v], .agg #[.int .i64 (Z : Int), u], vc] w (RetV w (.bool (heldAll ar Z tb cs))) := by
  obtain ⟨ac, kc, rfl⟩ := hc.form
  have HB : Bel w ((w.alloc (.cells #[v] 26)).alloc (.cells #[.int .i64 (Z : Int), u] 29)) := Bel.alloc2 _ _ _
  have HS1 := Lib.hid (fun k hk h => allg_split cs [] (heldC ar Z tb) k hk h)
  have HS2 := Lib.hid (fun k hk h => allg_false cs [] (heldC ar Z tb) k hk h)
  have HV := Lib.hid (fun (c : List Lt) (uc : Value) (w' : World) (hb : Bel w w') (h0 : okLits ar c = true) (h1 : sumC c ≤ 1048576) (h2 : SlC 0 w'.heap.size w' uc c) => falseAt_c v u uc ar Z tb c w' hg hw h0 (short_flat h1).1 (hv.below hb).in' (hu.below hb).in' h2)
  have HSM := Lib.hid hs
  have HOK := Lib.hid hok
  have HK : Hid (∀ w', Bel ((w.alloc (.cells #[v] 26)).alloc (.cells #[.int .i64 (Z : Int), u] 29)) w' → w'.cell? ⟨w.heap.size, 0, none⟩ = some v ∧ w'.cell? ⟨w.heap.size + 1, 0, none⟩ = some (.int .i64 (Z : Int)) ∧ w'.cell? ⟨w.heap.size + 1, 1, none⟩ = some u) := fun w' hb =>
    ⟨hb.at (by simp; omega) (by simp [go_sem]), hb.at (by simp) (by simp [go_sem]), hb.at (by simp) (by simp [go_sem])⟩
  unfold heldAll
  clear hv hu hs hok hg hw
  go_enter Try.func40, Try.ntmps40
  go_wp2_with fail
  go_loopw [13] (fun i wr => ∃ k : Nat, k ≤ cs.length ∧ i = .int .i64 k ∧ (cs.take k).all (heldC ar Z tb) = true ∧ Bel ((w.alloc (.cells #[v] 26)).alloc (.cells #[.int .i64 (Z : Int), u] 29)) wr) (fun i _ => cs.length - (intOf i).toNat)
  case atStart => exact ⟨0, Nat.zero_le _, rfl, rfl, Bel.rfl' _⟩
  case round =>
    obtain ⟨k, hk, rfl, hall, hb⟩ := hrel
    obtain ⟨x0, x1, x2⟩ := HK.out _ hb
    by_cases hlt : k < cs.length
    · obtain ⟨bc, offc, uc, rfl, hbc, c1, s1⟩ := hc.at (HB.step hb) k hlt
      obtain ⟨a1, d1, rfl⟩ := s1.form
      have HC := Lib.hid (HV.out _ _ _ (HB.step hb) (HOK.out k hlt) (HSM.out k hlt) s1.in')
      have HA := Lib.hid (HS1.out k hlt hall)
      have HF := Lib.hid (HS2.out k hlt)
      have HH : Hid (∀ c, heldC ar Z tb c = !(lwC ar Z tb c).isSome) := fun _ => rfl
      generalize hcc : (cs.getD k []) = c at *
      generalize c.length = m at *
      rw [HH.out] at HA HF
      clear hc s1 hall HS1 HS2 HV HSM HOK hcc HH
      generalize lwC ar Z tb c = R at *
      cases R with
      | some r =>
        go_wp2_with fail
        refine HC.out.mono ?_; rintro e w3 ⟨a3, m3, k3, rfl, -, hb3⟩
        go_wp2_with fail
        go_ret
        exact ⟨by rw [HF.out rfl]; rfl, (HB.step hb).step hb3⟩
      | none =>
        go_wp2_with fail
        refine HC.out.mono ?_; rintro e w3 ⟨a3, m3, k3, rfl, -, hb3⟩
        go_wp2_with fail
        go_roundw
        case rel => exact ⟨k+1, by omega, by go_num, HA.out, hb.step hb3⟩
        case measure => simp [intOf]; omega
    · obtain rfl : k = cs.length := by omega
      rw [List.take_length] at hall
      have HALL := Lib.hid hall
      clear hall
      go_wp2_with fail
      go_ret
      exact ⟨by rw [HALL.out]; rfl, HB.step hb⟩

theorem triable_ok {ar : List Int} {cs : List (List Lt)} (h : triable ar cs = true) : cs.length ≤ 40 ∧ ∀ k, k < cs.length → okLits ar (cs.getD k []) = true := by
  unfold triable at h
  rw [Bool.and_eq_true, decide_eq_true_eq, List.all_eq_true] at h
  refine ⟨h.1, fun k hk => ?_⟩
  have := h.2 _ (mem_getD _ [] k hk)
  rw [Bool.and_eq_true] at this
  exact okLits_iff.2 (goodClause_iff.1 this.1).2

set_option maxRecDepth 100000 in
set_option maxHeartbeats 1000000 in
theorem iAllHold_c {l h l' h' l2 h2 : Nat} {v u vc : Value} {ar : List Int} {sz : Int} {tb : List (List Int)} {cs : List (List Lt)} {w : World} (ha : ar.length ≤ 1048576) (hv : SlI l h w v ar) (hx : short tb) (hu : SlS l' h' w u tb) (hs : ∀ k, k < cs.length → sumC (cs.getD k []) ≤ 1048576) (hc : SlCs l2 h2 w vc cs) :
    Calls Try.prog 16 #[.agg #[v], .agg #[.int .i64 sz, u], vc] w (RetV w (.tuple #[.bool (allAns ar sz tb cs), .bool (allOk ar sz tb cs)])) := by
  replace hv := hv.in'
  replace hu := hu.in'
  replace hc := hc.in'
  unfold allAns
  have HB : Bel w ((w.alloc (.cells #[v] 26)).alloc (.cells #[.int .i64 sz, u] 29)) := Bel.alloc2 _ _ _
  have HK : Hid (∀ w', Bel ((w.alloc (.cells #[v] 26)).alloc (.cells #[.int .i64 sz, u] 29)) w' → w'.cell? ⟨w.heap.size, 0, none⟩ = some v ∧ w'.cell? ⟨w.heap.size + 1, 0, none⟩ = some (.int .i64 sz) ∧ w'.cell? ⟨w.heap.size + 1, 1, none⟩ = some u) := fun w' hb =>
    ⟨hb.at (by simp; omega) (by simp [go_sem]), hb.at (by simp) (by simp [go_sem]), hb.at (by simp) (by simp [go_sem])⟩
  have EQ : allOk ar sz tb cs = (goodWorld ar sz tb && triable ar cs) := rfl
  cases hg : goodWorld ar sz tb with
  | false =>
    rw [EQ, hg, Bool.false_and, if_neg (by simp)]
    have HC := Lib.hid (fun (w' : World) (hb : Bel w w') => iGoodWorld_v hg ha (hv.below hb) hx (hu.below hb)); clear hg EQ
    go_enter Try.func16, Try.ntmps16
    go_wp2_with fail
    refine (HC.out _ HB).mono ?_; rintro e w1 ⟨rfl, hb1⟩
    go_wp2_with fail
    go_ret2
    exact ⟨rfl, HB.step hb1⟩
  | true =>
    obtain ⟨hgs, hiw⟩ := goodWorld_iff.1 hg
    obtain ⟨z1, z3, _⟩ := isWorld_iff.1 hiw
    have HC := Lib.hid (fun (w' : World) (hb : Bel w w') => iGoodWorld_v hg ha (hv.below hb) hx (hu.below hb))
    have HT := Lib.hid (fun (w' : World) (hb : Bel w w') => areTriable_v (rfl : triable ar cs = triable ar cs) ha (hv.below hb) hs (hc.below hb))
    cases hq : triable ar cs with
    | false =>
      rw [EQ, hg, hq, Bool.true_and, if_neg (by simp)]
      rw [hq] at HT
      clear hq hg EQ
      go_enter Try.func16, Try.ntmps16
      go_wp2_with fail
      refine (HC.out _ HB).mono ?_; rintro e w1 ⟨rfl, hb1⟩
      obtain ⟨x0, x1, x2⟩ := HK.out _ hb1
      go_wp2_with fail
      refine (HT.out _ (HB.step hb1)).mono ?_; rintro e w2 ⟨rfl, hb2⟩
      go_wp2_with fail
      go_ret2
      exact ⟨rfl, (HB.step hb1).step hb2⟩
    | true =>
      have hgk : (goodWorld ar sz tb && triable ar cs) = true := by rw [hg, hq]; rfl
      rw [EQ, hgk, if_pos rfl]
      rw [hq] at HT
      obtain ⟨Z, rfl⟩ : ∃ Z : Nat, sz = (Z : Int) := ⟨sz.toNat, by omega⟩
      obtain ⟨q40, qok⟩ := triable_ok hq
      have HV := Lib.hid (fun (w' : World) (hb : Bel w w') => allHold_c v u vc ar Z tb cs w' hgs hiw qok hs q40 (hv.below hb).in' (hu.below hb).in' (hc.below hb).in')
      clear hq hg EQ hgk qok
      generalize heldAll ar Z tb cs = R at *
      go_enter Try.func16, Try.ntmps16
      go_wp2_with fail
      refine (HC.out _ HB).mono ?_; rintro e w1 ⟨rfl, hb1⟩
      obtain ⟨x0, x1, x2⟩ := HK.out _ hb1
      go_wp2_with fail
      refine (HT.out _ (HB.step hb1)).mono ?_; rintro e w2 ⟨rfl, hb2⟩
      obtain ⟨v0, v1, v2⟩ := HK.out _ (hb1.step hb2)
      go_wp2_with fail
      refine (HV.out _ ((HB.step hb1).step hb2)).mono ?_; rintro e w4 ⟨rfl, hb4⟩
      go_wp2_with fail
      go_ret2
      exact ⟨rfl, ((HB.step hb1).step hb2).step hb4⟩

set_option maxRecDepth 100000 in
set_option maxHeartbeats 1000000 in
theorem iHoldsIn_t {l h l' h' l2 h2 : Nat} {v u vc : Value} {ar : List Int} {sz : Int} {tb : List (List Int)} {c : List Lt} {w : World} (ha : ar.length ≤ 1048576) (hv : SlI l h w v ar) (hx : short tb) (hu : SlS l' h' w u tb) (hcs : sumC c ≤ 1048576) (hc : SlC l2 h2 w vc c) :
    Calls Try.prog 8 #[.agg #[v], .agg #[.int .i64 sz, u], vc] w (RetV w (.tuple #[.bool (heldAns ar sz tb c), .bool (falseOk ar sz tb c)])) := by
  obtain ⟨ac, kc, rfl⟩ := hc.form
  have HB : Bel w ((w.alloc (.cells #[v] 26)).alloc (.cells #[.int .i64 sz, u] 29)) := Bel.alloc2 _ _ _
  have HB2 := HB.alloc (.cells #[.slice ac c.length kc] 30)
  have HSC : ∀ k, k < [c].length → sumC ([c].getD k []) ≤ 1048576 := fun k hk => by
    obtain rfl : k = 0 := by simp at hk; omega
    exact hcs
  have HV := Lib.hid (iAllHold_c (sz := sz) ha (hv.below HB2) hx (hu.below HB2) HSC (slcs_one (w := (w.alloc (.cells #[v] 26)).alloc (.cells #[.int .i64 sz, u] 29)) (t := 30) (w.heap.size + 1 + 1) (by simp) (hc.below HB).in'))
  have E1 : allOk ar sz tb [c] = falseOk ar sz tb c := by
    unfold allOk falseOk
    cases hg : goodWorld ar sz tb with
    | false => rfl
    | true => rw [Bool.true_and, Bool.true_and, triable_one c (goodWorld_iff.1 hg).1]
  have E2 : allAns ar sz tb [c] = heldAns ar sz tb c := by
    unfold allAns heldAns heldAll
    rw [E1]; simp
  rw [E1, E2] at HV
  clear E1 E2
  generalize heldAns ar sz tb c = R1 at *
  generalize falseOk ar sz tb c = R2 at *
  go_enter Try.func8, Try.ntmps8
  go_wp2_with fail
  refine HV.out.mono ?_; rintro e w4 ⟨rfl, hb4⟩
  go_wp2_with fail
  go_ret2
  exact ⟨rfl, HB2.step hb4⟩
end Go.Proofs.Ytlcjcihohclmhaa
end
section
/- Chapter 5, the program: HoldsAt. -/
namespace Go.Proofs.Ytlcjcihohclmhaa
open Go.RowKit

set_option maxRecDepth 100000 in
set_option maxHeartbeats 1000000 in
theorem iHoldsAt_t {l h l' h' l2 h2 l3 h3 : Nat} {v u vc ve : Value} {ar : List Int} {sz : Int} {tb : List (List Int)} {c : List Lt} {env : List Int} {w : World} (ha : ar.length ≤ 1048576) (hv : SlI l h w v ar) (hx : short tb) (hu : SlS l' h' w u tb) (hcs : sumC c ≤ 1048576) (hc : SlC l2 h2 w vc c) (hel : env.length ≤ 1048576) (he : SlI l3 h3 w ve env) :
    Calls Try.prog 11 #[.agg #[v], .agg #[.int .i64 sz, u], vc, ve] w (RetV w (.tuple #[.bool (holdsAns ar sz tb c env), .bool (holdsOk ar sz tb c env)])) := by
  unfold holdsAns holdsOk
  have HB : Bel w ((w.alloc (.cells #[v] 26)).alloc (.cells #[.int .i64 sz, u] 29)) := Bel.alloc2 _ _ _
  have HK : Hid (∀ w', Bel ((w.alloc (.cells #[v] 26)).alloc (.cells #[.int .i64 sz, u] 29)) w' → w'.cell? ⟨w.heap.size, 0, none⟩ = some v ∧ w'.cell? ⟨w.heap.size + 1, 0, none⟩ = some (.int .i64 sz) ∧ w'.cell? ⟨w.heap.size + 1, 1, none⟩ = some u) := fun w' hb =>
    ⟨hb.at (by simp; omega) (by simp [go_sem]), hb.at (by simp) (by simp [go_sem]), hb.at (by simp) (by simp [go_sem])⟩
  cases hg : goodWorld ar sz tb with
  | false =>
    rw [Bool.false_and, if_neg (by simp)]
    have HC := Lib.hid (fun (w' : World) (hb : Bel w w') => iGoodWorld_v hg ha (hv.below hb) hx (hu.below hb)); clear hg
    go_enter Try.func11, Try.ntmps11
    go_wp2_with fail
    refine (HC.out _ HB).mono ?_; rintro e w1 ⟨rfl, hb1⟩
    go_wp2_with fail
    go_ret2
    exact ⟨rfl, HB.step hb1⟩
  | true =>
    rw [Bool.true_and]
    obtain ⟨hgs, hiw⟩ := goodWorld_iff.1 hg
    obtain ⟨z1, z3, _, _⟩ := isWorld_iff.1 hiw
    have HC := Lib.hid (fun (w' : World) (hb : Bel w w') => iGoodWorld_v hg ha (hv.below hb) hx (hu.below hb)); clear hg
    cases hq : okLits ar c with
    | false =>
      rw [Bool.false_and, if_neg (by simp)]
      have HT := Lib.hid (fun (w' : World) (hb : Bel w w') => iGoodClause_v (q := false) (by unfold goodClause; rw [hgs, hq]; rfl) ha (hv.below hb) hcs (hc.below hb)); clear hq
      go_enter Try.func11, Try.ntmps11
      go_wp2_with fail
      refine (HC.out _ HB).mono ?_; rintro e w1 ⟨rfl, hb1⟩
      obtain ⟨x0, x1, x2⟩ := HK.out _ hb1
      go_wp2_with fail
      refine (HT.out _ (HB.step hb1)).mono ?_; rintro e w2 ⟨rfl, hb2⟩
      go_wp2_with fail
      go_ret2
      exact ⟨rfl, (HB.step hb1).step hb2⟩
    | true =>
      rw [Bool.true_and]
      have HT := Lib.hid (fun (w' : World) (hb : Bel w w') => iGoodClause_v (q := true) (by unfold goodClause; rw [hgs, hq]; rfl) ha (hv.below hb) hcs (hc.below hb))
      cases hp : okEnv sz env with
      | false =>
        rw [if_neg (by simp)]
        have HE := Lib.hid (fun (w' : World) (hb : Bel w w') => goodEnv_v l3 h3 u ve sz env false w' hp z1 z3 hel (he.below hb))
        clear hq hp
        go_enter Try.func11, Try.ntmps11
        go_wp2_with fail
        refine (HC.out _ HB).mono ?_; rintro e w1 ⟨rfl, hb1⟩
        obtain ⟨x0, x1, x2⟩ := HK.out _ hb1
        go_wp2_with fail
        refine (HT.out _ (HB.step hb1)).mono ?_; rintro e w2 ⟨rfl, hb2⟩
        obtain ⟨y0, y1, y2⟩ := HK.out _ (hb1.step hb2)
        go_wp2_with fail
        refine (HE.out _ ((HB.step hb1).step hb2)).mono ?_; rintro e w3 ⟨rfl, hb3⟩
        go_wp2_with fail
        go_ret2
        exact ⟨rfl, ((HB.step hb1).step hb2).step hb3⟩
      | true =>
        rw [if_pos rfl]
        have HE := Lib.hid (fun (w' : World) (hb : Bel w w') => goodEnv_v l3 h3 u ve sz env true w' hp z1 z3 hel (he.below hb))
        have h8 := (okLits_iff.1 hq).1
        have HOK := Lib.hid (fun k hk => okLits_get (okLits_iff.1 hq).2 k hk)
        have HV := Lib.hid (fun (p : Bool) (xl xr : List Int) (u1 u2 : Value) (w' : World) (o1 : okTerm ar xl = true) (o2 : okTerm ar xr = true) (hb : Bel w w') (s1 : SlI l2 h2 w' u1 xl) (s2 : SlI l2 h2 w' u2 xr) => litHolds_c l h l' h' l2 h2 l3 h3 v u u1 u2 ve ar sz tb p xl xr env w' hgs hiw hp o1 o2 (hv.below hb) (hu.below hb) s1 s2 (he.below hb))
        obtain ⟨ac, kc, rfl⟩ := hc.form
        have HS1 := Lib.hid (fun k hk h => any_split c (litH ar sz tb env) k hk h)
        have HS2 := Lib.hid (fun k hk h => any_true c (litH ar sz tb env) k hk h)
        unfold clH
        generalize litH ar sz tb env = LH at *
        clear hq hp
        go_enter Try.func11, Try.ntmps11
        go_wp2_with fail
        refine (HC.out _ HB).mono ?_; rintro e w1 ⟨rfl, hb1⟩
        obtain ⟨x0, x1, x2⟩ := HK.out _ hb1
        go_wp2_with fail
        refine (HT.out _ (HB.step hb1)).mono ?_; rintro e w2 ⟨rfl, hb2⟩
        obtain ⟨y0, y1, y2⟩ := HK.out _ (hb1.step hb2)
        go_wp2_with fail
        refine (HE.out _ ((HB.step hb1).step hb2)).mono ?_; rintro e w3 ⟨rfl, hb3⟩
        obtain ⟨v0, v1, v2⟩ := HK.out _ ((hb1.step hb2).step hb3)
        go_wp2_with fail
        have HW := ((HB.step hb1).step hb2).step hb3
        have HKW := Lib.hid (fun w' (hb : Bel w3 w') => HK.out w' (((hb1.step hb2).step hb3).step hb))
        clear hb1 hb2 hb3 x0 x1 x2 y0 y1 y2 HC HT HE HK
        go_loopw [30] (fun i wr => ∃ k : Nat, k ≤ c.length ∧ i = .int .i64 k ∧ (c.take k).any LH = false ∧ Bel w3 wr) (fun i _ => c.length - (intOf i).toNat)
        case atStart => exact ⟨0, Nat.zero_le _, rfl, by simp, Bel.rfl' _⟩
        case round =>
          obtain ⟨k, hk, rfl, hany, hb⟩ := hrel
          by_cases hlt : k < c.length
          · obtain ⟨b, off, u1, u2, rfl, hbs, c1, c2, c3, s1, s2⟩ := hc.at (HW.step hb) k hlt
            obtain ⟨o1, o2⟩ := HOK.out k hlt
            have hin1 : (k : Int) < c.length := by omega
            have HS := HS1.out k hlt hany
            have HT := HS2.out k hlt
            clear HS1 HS2 HOK hany
            generalize c.getD k lt0 = x at *
            obtain ⟨p, xl, xr⟩ := x
            simp only at *
            obtain ⟨a1, d1, rfl⟩ := s1.form
            obtain ⟨a2, d2, rfl⟩ := s2.form
            have hBx := hb.alloc (.cells #[.bool p, .slice a1 xl.length d1, .slice a2 xr.length d2] 60)
            obtain ⟨f0, f1, f2⟩ := HKW.out _ hBx
            have HC := Lib.hid (HV.out p xl xr _ _ _ o1 o2 (HW.step hBx) (s1.alloc _) (s2.alloc _))
            clear s1 s2 o1 o2 HV
            cases hq : LH (p, xl, xr) with
            | false =>
              rw [hq] at HS HC
              go_wp2_with fail
              refine HC.out.mono ?_; rintro e w9 ⟨rfl, hb9⟩
              go_wp2_with fail
              go_roundw
              case rel => exact ⟨k+1, by omega, by go_num, HS, hBx.step hb9⟩
              case measure => simp [intOf]; omega
            | true =>
              rw [hq] at HC
              go_wp2_with fail
              refine HC.out.mono ?_; rintro e w9 ⟨rfl, hb9⟩
              go_wp2_with fail
              go_ret2
              exact ⟨by rw [HT hq]; rfl, (HW.step hBx).step hb9⟩
          · obtain rfl : k = c.length := by omega
            rw [List.take_length] at hany
            have HY := Lib.hid hany
            clear hany
            go_wp2_with fail
            go_ret2
            exact ⟨by rw [HY.out]; rfl, HW.step hb⟩
end Go.Proofs.Ytlcjcihohclmhaa
end
section
/- Chapter 5, the reference: AllHold. -/
namespace Go.Proofs.Ytlcjcihohclmhaa
open Go.RowKit

set_option maxRecDepth 100000 in
set_option maxHeartbeats 1000000 in
theorem l5Clauses_c (l h l' h' : Nat) (v vc : Value) (ar : List Int) (cs : List (List Lt)) (w : World) (hg : goodSign ar = true) (hv : SlI l h w v ar) (hs : ∀ k, k < cs.length → sumC (cs.getD k []) ≤ 1048576) (hc : SlCs l' h' w vc cs) :
    Calls Try.prog 41 #[.agg #[v], vc] w (RetV w (.bool (triable ar cs))) := by
  obtain ⟨ac, kc, rfl⟩ := hc.form
  have hcl : cs.length ≤ 9223372036854775807 := by
    obtain ⟨_, cap, e, h1, h2, _⟩ := hc
    unfold maxLen at h2; omega
  have HS1 := Lib.hid (fun k hk h => allg_split cs [] (fun c => goodClause ar c && fewC c) k hk h)
  have HS2 := Lib.hid (fun k hk h => allg_false cs [] (fun c => goodClause ar c && fewC c) k hk h)
  have HT := Lib.hid (fun (c : List Lt) (u : Value) (a b : Nat) (w' : World) (hb : Bel w w') (h1 : sumC c ≤ 1048576) (h2 : SlC a b w' u c) => l4Clause_w _ _ _ _ v u ar c (okLits ar c) w' rfl hg (shortC_of_sum h1) (hv.below hb) h2)
  have HE := Lib.hid (fun (c : List Lt) (u : Value) (a b : Nat) (w' : World) (hq : okLits ar c = true) (h1 : sumC c ≤ 1048576) (h2 : SlC a b w' u c) => l5Few_v _ _ u ar c (fewC c) w' rfl hq (shortC_of_sum h1) h2)
  have HGC : Hid (∀ c, (goodClause ar c && fewC c) = (okLits ar c && fewC c)) := fun c => by unfold goodClause; rw [hg, Bool.true_and]
  have HSM := Lib.hid hs
  have HB := Bel.alloc0 w (.cells #[v] 26)
  have HTR : Hid (triable ar cs = (decide (cs.length ≤ 40) && cs.all (fun c => goodClause ar c && fewC c))) := rfl
  clear hv hs
  go_enter Try.func41, Try.ntmps41
  go_wp2_with fail
  go_loopw [9] (fun i wr => ∃ k : Nat, k ≤ cs.length ∧ i = .int .i64 k ∧ (cs.take k).all (fun c => goodClause ar c && fewC c) = true ∧ Bel (w.alloc (.cells #[v] 26)) wr) (fun i _ => cs.length - (intOf i).toNat)
  case atStart => exact ⟨0, Nat.zero_le _, rfl, rfl, Bel.rfl' _⟩
  case round =>
    obtain ⟨k, hk, rfl, hall, hb⟩ := hrel
    have x0 : wr.cell? ⟨w.heap.size, 0, none⟩ = some v := hb.at (by simp) (by simp [go_sem])
    by_cases hlt : k < cs.length
    · obtain ⟨bc, offc, uc, rfl, hbc, c1, s1⟩ := hc.at hb.of_alloc k hlt
      obtain ⟨a1, d1, rfl⟩ := s1.form
      have HC := Lib.hid (HT.out _ _ _ _ _ hb.of_alloc (HSM.out k hlt) s1)
      have HF2 := Lib.hid (fun (w' : World) (hq : okLits ar (cs.getD k []) = true) (hb' : Bel wr w') => HE.out _ _ _ _ w' hq (HSM.out k hlt) (s1.below hb'))
      have HA := Lib.hid (HS1.out k hlt hall)
      have HF := Lib.hid (HS2.out k hlt)
      have hlk : (k : Int) < cs.length := by omega
      rw [HGC.out] at HA HF
      generalize hcc : (cs.getD k []) = c at *
      generalize c.length = m at *
      clear hc s1 hall HS1 HS2 HT HE HSM hcc HGC
      generalize okLits ar c = g at *
      generalize fewC c = f at *
      cases g with
      | false =>
        go_wp2_with fail
        refine HC.out.mono ?_; rintro e w3 ⟨rfl, hb3⟩
        go_wp2_with fail
        go_ret
        exact ⟨by rw [HTR.out, HF.out (by first | rfl | trivial), Bool.and_false]; rfl, (HB.step hb).step hb3⟩
      | true =>
        cases f with
        | true =>
          go_wp2_with fail
          refine HC.out.mono ?_; rintro e w3 ⟨rfl, hb3⟩
          go_wp2_with fail
          refine (HF2.out _ (by first | rfl | trivial) hb3).mono ?_; rintro e w4 ⟨rfl, hb4⟩
          go_wp2_with fail
          go_roundw
          case rel => exact ⟨k+1, by omega, by go_num, HA.out, (hb.step hb3).step hb4⟩
          case measure => simp [intOf]; omega
        | false =>
          go_wp2_with fail
          refine HC.out.mono ?_; rintro e w3 ⟨rfl, hb3⟩
          go_wp2_with fail
          refine (HF2.out _ (by first | rfl | trivial) hb3).mono ?_; rintro e w4 ⟨rfl, hb4⟩
          go_wp2_with fail
          go_ret
          exact ⟨by rw [HTR.out, HF.out (by first | rfl | trivial), Bool.and_false]; rfl, ((HB.step hb).step hb3).step hb4⟩
    · obtain rfl : k = cs.length := by omega
      rw [List.take_length] at hall
      have HALL := Lib.hid hall
      clear hall
      have hd : decide ((cs.length : Int) ≤ 40) = decide (cs.length ≤ 40) := by rw [decide_eq_decide]; omega
      generalize hdd : decide (cs.length ≤ 40) = D at *
      have HDD := Lib.hid hdd
      clear hdd
      go_wp2_with fail
      go_ret
      exact ⟨by rw [HTR.out, HALL.out, Bool.and_true]; rfl, HB.step hb⟩

set_option maxRecDepth 100000 in
set_option maxHeartbeats 1000000 in
theorem l5All_c (v u vc : Value) (ar : List Int) (Z : Nat) (tb : List (List Int)) (cs : List (List Lt)) (w : World) (hg : goodSign ar = true) (hw : isWorld ar Z tb = true) (hok : ∀ k, k < cs.length → okLits ar (cs.getD k []) = true) (hs : ∀ k, k < cs.length → sumC (cs.getD k []) ≤ 1048576) (h40 : cs.length ≤ 40)
    (hv : SlI 0 w.heap.size w v ar) (hu : SlS 0 w.heap.size w u tb) (hc : SlCs 0 w.heap.size w vc cs) :
    Calls Try.prog 43 #[.agg #[v], .agg #[.int .i64 (Z : Int), u], vc] w (RetV w (.bool (heldAll ar Z tb cs))) := by
  obtain ⟨ac, kc, rfl⟩ := hc.form
  have HB : Bel w ((w.alloc (.cells #[v] 26)).alloc (.cells #[.int .i64 (Z : Int), u] 29)) := Bel.alloc2 _ _ _
  have HS1 := Lib.hid (fun k hk h => allg_split cs [] (heldC ar Z tb) k hk h)
  have HS2 := Lib.hid (fun k hk h => allg_false cs [] (heldC ar Z tb) k hk h)
  have HV := Lib.hid (fun (c : List Lt) (uc : Value) (w' : World) (hb : Bel w w') (h0 : okLits ar c = true) (h1 : sumC c ≤ 1048576) (h2 : SlC 0 w'.heap.size w' uc c) => l5Holds_c v u uc ar Z tb c w' hg hw h0 (shortC_of_sum h1) (hv.below hb).in' (hu.below hb).in' h2)
  have HSM := Lib.hid hs
  have HOK := Lib.hid hok
  have HK : Hid (∀ w', Bel ((w.alloc (.cells #[v] 26)).alloc (.cells #[.int .i64 (Z : Int), u] 29)) w' → w'.cell? ⟨w.heap.size, 0, none⟩ = some v ∧ w'.cell? ⟨w.heap.size + 1, 0, none⟩ = some (.int .i64 (Z : Int)) ∧ w'.cell? ⟨w.heap.size + 1, 1, none⟩ = some u) := fun w' hb =>
    ⟨hb.at (by simp; omega) (by simp [go_sem]), hb.at (by simp) (by simp [go_sem]), hb.at (by simp) (by simp [go_sem])⟩
  unfold heldAll
  clear hv hu hs hok hg hw
  go_enter Try.func43, Try.ntmps43
  go_wp2_with fail
  go_loopw [11] (fun i wr => ∃ k : Nat, k ≤ cs.length ∧ i = .int .i64 k ∧ (cs.take k).all (heldC ar Z tb) = true ∧ Bel ((w.alloc (.cells #[v] 26)).alloc (.cells #[.int .i64 (Z : Int), u] 29)) wr) (fun i _ => cs.length - (intOf i).toNat)
  case atStart => exact ⟨0, Nat.zero_le _, rfl, rfl, Bel.rfl' _⟩
  case round =>
    obtain ⟨k, hk, rfl, hall, hb⟩ := hrel
    obtain ⟨x0, x1, x2⟩ := HK.out _ hb
    by_cases hlt : k < cs.length
    · obtain ⟨bc, offc, uc, rfl, hbc, c1, s1⟩ := hc.at (HB.step hb) k hlt
      obtain ⟨a1, d1, rfl⟩ := s1.form
      have HC := Lib.hid (HV.out _ _ _ (HB.step hb) (HOK.out k hlt) (HSM.out k hlt) s1.in')
      have HA := Lib.hid (HS1.out k hlt hall)
      have HF := Lib.hid (HS2.out k hlt)
      generalize hcc : (cs.getD k []) = c at *
      generalize c.length = m at *
      clear hc s1 hall HS1 HS2 HV HSM HOK hcc
      generalize hR : heldC ar Z tb c = R at *
      clear hR
      cases R with
      | false =>
        go_wp2_with fail
        refine HC.out.mono ?_; rintro e w3 ⟨rfl, hb3⟩
        go_wp2_with fail
        go_ret
        exact ⟨by rw [HF.out (by first | rfl | trivial)]; rfl, (HB.step hb).step hb3⟩
      | true =>
        go_wp2_with fail
        refine HC.out.mono ?_; rintro e w3 ⟨rfl, hb3⟩
        go_wp2_with fail
        go_roundw
        case rel => exact ⟨k+1, by omega, by go_num, HA.out, hb.step hb3⟩
        case measure => simp [intOf]; omega
    · obtain rfl : k = cs.length := by omega
      rw [List.take_length] at hall
      have HALL := Lib.hid hall
      clear hall
      go_wp2_with fail
      go_ret
      exact ⟨by rw [HALL.out]; rfl, HB.step hb⟩
end Go.Proofs.Ytlcjcihohclmhaa
end
section
/- Chapter 5, the reference: AllHold. -/
namespace Go.Proofs.Ytlcjcihohclmhaa
open Go.RowKit

set_option maxRecDepth 100000 in
set_option maxHeartbeats 1000000 in
theorem sAllHold_c {l h l' h' l2 h2 : Nat} {v u vc : Value} {ar : List Int} {sz : Int} {tb : List (List Int)} {cs : List (List Lt)} {w : World} (ha : ar.length ≤ 1048576) (hv : SlI l h w v ar) (hx : short tb) (hu : SlS l' h' w u tb) (hs : ∀ k, k < cs.length → sumC (cs.getD k []) ≤ 1048576) (hc : SlCs l2 h2 w vc cs) :
    Calls Try.prog 24 #[.agg #[v], .agg #[.int .i64 sz, u], vc] w (RetV w (.tuple #[.bool (allAns ar sz tb cs), .bool (allOk ar sz tb cs)])) := by
  replace hv := hv.in'
  replace hu := hu.in'
  replace hc := hc.in'
  unfold allAns
  have HB : Bel w ((w.alloc (.cells #[v] 26)).alloc (.cells #[.int .i64 sz, u] 29)) := Bel.alloc2 _ _ _
  have HK : Hid (∀ w', Bel ((w.alloc (.cells #[v] 26)).alloc (.cells #[.int .i64 sz, u] 29)) w' → w'.cell? ⟨w.heap.size, 0, none⟩ = some v ∧ w'.cell? ⟨w.heap.size + 1, 0, none⟩ = some (.int .i64 sz) ∧ w'.cell? ⟨w.heap.size + 1, 1, none⟩ = some u) := fun w' hb =>
    ⟨hb.at (by simp; omega) (by simp [go_sem]), hb.at (by simp) (by simp [go_sem]), hb.at (by simp) (by simp [go_sem])⟩
  have EQ : allOk ar sz tb cs = (goodWorld ar sz tb && triable ar cs) := rfl
  cases hg : goodWorld ar sz tb with
  | false =>
    rw [EQ, hg, Bool.false_and, if_neg (by simp)]
    have HC := Lib.hid (fun (w' : World) (hb : Bel w w') => sGoodWorld_v hg ha (hv.below hb) hx (hu.below hb)); clear hg EQ
    go_enter Try.func24, Try.ntmps24
    go_wp2_with fail
    refine (HC.out _ HB).mono ?_; rintro e w1 ⟨rfl, hb1⟩
    go_wp2_with fail
    go_ret2
    exact ⟨rfl, HB.step hb1⟩
  | true =>
    obtain ⟨hgs, hiw⟩ := goodWorld_iff.1 hg
    obtain ⟨z1, z3, _⟩ := isWorld_iff.1 hiw
    have HC := Lib.hid (fun (w' : World) (hb : Bel w w') => sGoodWorld_v hg ha (hv.below hb) hx (hu.below hb))
    have HT := Lib.hid (fun (w' : World) (hb : Bel w w') => l5Clauses_c _ _ _ _ v vc ar cs w' hgs (hv.below hb) hs (hc.below hb))
    cases hq : triable ar cs with
    | false =>
      rw [EQ, hg, hq, Bool.true_and, if_neg (by simp)]
      rw [hq] at HT
      clear hq hg EQ
      go_enter Try.func24, Try.ntmps24
      go_wp2_with fail
      refine (HC.out _ HB).mono ?_; rintro e w1 ⟨rfl, hb1⟩
      obtain ⟨x0, x1, x2⟩ := HK.out _ hb1
      go_wp2_with fail
      refine (HT.out _ (HB.step hb1)).mono ?_; rintro e w2 ⟨rfl, hb2⟩
      go_wp2_with fail
      go_ret2
      exact ⟨rfl, (HB.step hb1).step hb2⟩
    | true =>
      have hgk : (goodWorld ar sz tb && triable ar cs) = true := by rw [hg, hq]; rfl
      rw [EQ, hgk, if_pos rfl]
      rw [hq] at HT
      obtain ⟨Z, rfl⟩ : ∃ Z : Nat, sz = (Z : Int) := ⟨sz.toNat, by omega⟩
      obtain ⟨q40, qok⟩ := triable_ok hq
      have HV := Lib.hid (fun (w' : World) (hb : Bel w w') => l5All_c v u vc ar Z tb cs w' hgs hiw qok hs q40 (hv.below hb).in' (hu.below hb).in' (hc.below hb).in')
      clear hq hg EQ hgk qok
      generalize heldAll ar Z tb cs = R at *
      go_enter Try.func24, Try.ntmps24
      go_wp2_with fail
      refine (HC.out _ HB).mono ?_; rintro e w1 ⟨rfl, hb1⟩
      obtain ⟨x0, x1, x2⟩ := HK.out _ hb1
      go_wp2_with fail
      refine (HT.out _ (HB.step hb1)).mono ?_; rintro e w2 ⟨rfl, hb2⟩
      obtain ⟨v0, v1, v2⟩ := HK.out _ (hb1.step hb2)
      go_wp2_with fail
      refine (HV.out _ ((HB.step hb1).step hb2)).mono ?_; rintro e w4 ⟨rfl, hb4⟩
      go_wp2_with fail
      go_ret2
      exact ⟨rfl, ((HB.step hb1).step hb2).step hb4⟩

end Go.Proofs.Ytlcjcihohclmhaa
end
section
/- Chapter 5: AllHold. -/
namespace Go.Proofs.Ytlcjcihohclmhaa
open Go.RowKit

theorem sAllHold_t {l h l' h' l2 h2 : Nat} {v u vc : Value} {ar : List Int} {sz : Int} {tb : List (List Int)} {cs : List (List Lt)} {w : World} (ha : ar.length ≤ 1048576) (hv : SlI l h w v ar) (hx : short tb) (hu : SlS l' h' w u tb) (hs : totCs cs ≤ 1048576) (hc : SlCs l2 h2 w vc cs) :
    Calls Try.prog 24 #[.agg #[v], .agg #[.int .i64 sz, u], vc] w (RetV w (.tuple #[.bool (allAns ar sz tb cs), .bool (allOk ar sz tb cs)])) := sAllHold_c ha hv hx hu (totCs_each hs).2 hc
theorem iAllHold_t {l h l' h' l2 h2 : Nat} {v u vc : Value} {ar : List Int} {sz : Int} {tb : List (List Int)} {cs : List (List Lt)} {w : World} (ha : ar.length ≤ 1048576) (hv : SlI l h w v ar) (hx : short tb) (hu : SlS l' h' w u tb) (hs : totCs cs ≤ 1048576) (hc : SlCs l2 h2 w vc cs) :
    Calls Try.prog 16 #[.agg #[v], .agg #[.int .i64 sz, u], vc] w (RetV w (.tuple #[.bool (allAns ar sz tb cs), .bool (allOk ar sz tb cs)])) := iAllHold_c ha hv hx hu (totCs_each hs).2 hc
end Go.Proofs.Ytlcjcihohclmhaa
end
section
/- Chapter 5: the world of a number. No program but the frame of a row. -/
namespace Go.Proofs.Ytlcjcihohclmhaa
open Go.RowKit

def digN (Z N : Nat) : Nat → List Int
  | 0 => []
  | k + 1 => digN Z N k ++ [((N / Z ^ k % Z : Nat) : Int)]
def tabN (ar : List Int) (Z N : Nat) : Nat → List (List Int)
  | 0 => []
  | k + 1 => tabN ar Z N k ++ [digN Z (N / Z ^ sumW ar Z k) (longW Z (ar.getD k 0))]
theorem digN_len (Z N k : Nat) : (digN Z N k).length = k := by
  induction k with
  | zero => rfl
  | succ k ih => simp [digN, ih]
theorem tabN_len (ar : List Int) (Z N k : Nat) : (tabN ar Z N k).length = k := by
  induction k with
  | zero => rfl
  | succ k ih => simp [tabN, ih]
theorem digN_get (Z N : Nat) : ∀ (k j : Nat), j < k → (digN Z N k).getD j 0 = ((N / Z ^ j % Z : Nat) : Int) := by
  intro k
  induction k with
  | zero => intro j h; omega
  | succ k ih =>
    intro j h
    have hl := digN_len Z N k
    by_cases e : j = k
    · subst e
      rw [digN, List.getD_eq_getElem?_getD, List.getElem?_append_right (by omega), hl]
      simp
    · have := ih j (by omega)
      rw [digN, List.getD_eq_getElem?_getD, List.getElem?_append_left (by omega), ← List.getD_eq_getElem?_getD]
      exact this
theorem div_step (Z N k : Nat) : N / Z ^ k / Z = N / Z ^ (k + 1) := by rw [Nat.div_div_eq_div_mul, Nat.pow_succ]
theorem div_sum (Z N a b : Nat) : N / Z ^ a / Z ^ b = N / Z ^ (a + b) := by rw [Nat.div_div_eq_div_mul, Nat.pow_add]
theorem tabN_tot (ar : List Int) (Z N : Nat) (hg : ∀ k, longW Z (ar.getD k 0) ≤ 27) : ∀ k, tot (tabN ar Z N k) ≤ 28 * k := by
  intro k
  induction k with
  | zero => simp [tabN, tot, sumL]
  | succ k ih =>
    have := hg k
    unfold tot sumL at ih ⊢
    rw [tabN]
    generalize longW Z (ar.getD k 0) = L at *
    generalize tabN ar Z N k = T at *
    simp only [List.length_append, List.map_append, List.sum_append, List.map_cons, List.map_nil, List.sum_cons, List.sum_nil, digN_len, List.length_cons, List.length_nil]
    omega

/-- A change that lies below the row leaves it. -/
theorem RowO.cur {b base : Nat} {w w' : World} {v : Value} {xss : List (List Int)} (h : RowO base w v xss) (hb : b < base) (k : Chg b (b+1) w w') : RowO base w' v xss := by
  obtain ⟨us, bs, ho, hi⟩ := h
  have ho2 : w'.ownsRow base 24 1 v us.length us := by
    obtain ⟨h1, h2⟩ := ho
    refine ⟨h1, ?_⟩
    rcases h2 with ⟨e, hn⟩ | ⟨g, cap, cur, e, hg, hh, hn, hc, hs, ht⟩
    · exact .inl ⟨e, hn⟩
    · refine .inr ⟨g, cap, cur, e, hg, ?_, hn, hc, hs, ht⟩
      have hlt : g < w.heap.size := (Array.getElem?_eq_some_iff.1 hh).1
      exact (k.block g hlt (.inr (by omega))).trans hh
  refine ⟨us, bs, ho2, ((hi.same fun x h1 h2 h3 => k.block x h3 (.inr (by omega))).mono (Nat.le_refl _) k.size).blk fun j hj hp => ?_⟩
  have hr := hi.rng j hj hp
  unfold rowBlk at hr ⊢
  cases hv : v.ownBlock with
  | none => have := k.size; simp only [Option.getD_none]; omega
  | some g => rw [hv] at hr; simp only [Option.getD_some] at hr ⊢; exact hr.2.2
end Go.Proofs.Ytlcjcihohclmhaa
end
section
/- Chapter 5: CountWorlds, the reference. -/
namespace Go.Proofs.Ytlcjcihohclmhaa
open Go.RowKit

theorem cw_step {sz : Int} {N : Int} {m : Nat} (h : min N 10000 = cwN sz m) (hlt : N < 10000) : min (N * sz) 10000 = cwN sz (m + 1) := by
  rw [cwN, ← h]
  rw [show min N 10000 = N from by omega]
theorem sumW_pos (ar : List Int) (sz : Int) (k : Nat) : sumW ar sz (k+1) = sumW ar sz k + longW sz (ar.getD k 0) := rfl
theorem sumW_mono (ar : List Int) (sz : Int) (k n : Nat) (h : k ≤ n) : sumW ar sz k ≤ sumW ar sz n := by
  induction n with
  | zero => rw [show k = 0 by omega]; exact Nat.le_refl _
  | succ n ih =>
    by_cases e : k = n + 1
    · rw [e]; exact Nat.le_refl _
    · rw [sumW_pos]; have := ih (by omega); omega
theorem longW_nat (Z A : Nat) : longW (Z : Int) (A : Int) = Z ^ A := rfl
theorem l1Least_c (a b : Int) (w : World) : Calls Try.prog 73 #[.int .i64 a, .int .i64 b] w (RetV w (.int .i64 (min a b))) := by
  by_cases h : a < b
  · have E : Hid (min a b = a) := by show _ = _; omega
    go_enter Try.func73, Try.ntmps73
    go_wp2_with fail
    go_ret
    exact ⟨by rw [E.out]; rfl, Bel.rfl' _⟩
  · have E : Hid (min a b = b) := by show _ = _; omega
    go_enter Try.func73, Try.ntmps73
    go_wp2_with fail
    go_ret
    exact ⟨by rw [E.out]; rfl, Bel.rfl' _⟩

set_option maxRecDepth 100000 in
set_option maxHeartbeats 1000000 in
theorem l5Worlds_c (l h : Nat) (v : Value) (ar : List Int) (sz : Int) (w : World) (hg : goodSign ar = true) (h1 : inB sz 1 3 = true) (hv : SlI l h w v ar) :
    Calls Try.prog 51 #[.agg #[v], .int .i64 sz] w (RetV w (.int .i64 (cwN sz (sumW ar sz ar.length)))) := by
  obtain ⟨ad, cap, rfl, -, -, hr⟩ := hv
  have hlen := (sign_len ar hg).2
  obtain ⟨z1, z3⟩ : 1 ≤ sz ∧ sz ≤ 3 := by unfold inB at h1; simpa using h1
  obtain ⟨Z, rfl⟩ : ∃ Z : Nat, sz = (Z : Int) := ⟨sz.toNat, by omega⟩
  clear h1
  go_enter Try.func51, Try.ntmps51
  go_wp2_with fail
  obtain ⟨W, hW⟩ : ∃ W, W = w.alloc (.cells #[.slice ad ar.length cap] 26) := ⟨_, rfl⟩
  rw [← hW]
  have hB : Bel w W := by rw [hW]; exact Bel.alloc0 _ _
  clear hW
  go_loopw [5, 12] (fun n i wr => ∃ (k : Nat) (N : Int), k ≤ ar.length ∧ i = .int .i64 k ∧ n = .int .i64 N ∧ 1 ≤ N ∧ N ≤ 29997 ∧ min N 10000 = cwN Z (sumW ar Z k) ∧ Bel W wr) (fun _ i _ => ar.length - (intOf i).toNat)
  case atStart => exact ⟨0, 1, Nat.zero_le _, rfl, rfl, by omega, by omega, rfl, Bel.rfl' _⟩
  case round =>
    obtain ⟨k, N, hk, rfl, rfl, n1, n2, hN, hb⟩ := hrel
    by_cases hlt : k < ar.length
    · obtain ⟨b2, off2, rfl, hb2l, hc2⟩ := rd hr (hB.step hb) k hlt
      have h03 := ar_nonneg ar hg k
      obtain ⟨A, hA⟩ : ∃ A : Nat, ar.getD k 0 = (A : Int) := ⟨(ar.getD k 0).toNat, by omega⟩
      have HS : Hid (sumW ar Z (k+1) = sumW ar Z k + Z ^ A) := by show _ = _; rw [sumW_pos, hA]; rfl
      rw [hA] at hc2 h03
      have hA3 : A ≤ 3 := by omega
      have hL27 := pw_le (Z := Z) (by omega) hA3
      have HL := Lib.hid (fun (w' : World) => l5Long_c Z A w' (by omega) hA3)
      clear hA h03
      generalize Z ^ A = L at *
      go_wp2_with fail
      refine (HL.out _).mono ?_; rintro e w2 ⟨rfl, hb2⟩
      go_wp2_with fail
      go_loop [5, 8] (fun n i => ∃ (d : Nat) (M : Int), d ≤ L ∧ i = .int .i64 ((L - d : Nat) : Int) ∧ n = .int .i64 M ∧ 1 ≤ M ∧ M ≤ 29997 ∧ min M 10000 = cwN Z (sumW ar Z k + d)) (fun _ i => (intOf i).toNat)
      case atStart => exact ⟨0, N, Nat.zero_le _, rfl, rfl, n1, n2, hN⟩
      case round =>
        obtain ⟨d, M, hd, rfl, rfl, m1, m2, hM⟩ := hrel
        by_cases hdl : d < L
        · by_cases hM1 : M < 10000
          · have hmul : M * 1 ≤ M * (Z : Int) := Int.mul_le_mul_of_nonneg_left z1 (by omega)
            have hmul2 : M * (Z : Int) ≤ M * 3 := Int.mul_le_mul_of_nonneg_left z3 (by omega)
            have hst := cw_step hM hM1
            have hw1 := IntWalk.i64_in (M * (Z : Int)) (by omega)
            have hpos : (0 : Int) < ((L - d : Nat) : Int) := by omega
            have hg27 : ((L - d : Nat) : Int) ≤ 27 := by omega
            have hsub : Hid (((L - d : Nat) : Int) - 1 = ((L - (d + 1) : Nat) : Int)) := by show _ = _; omega
            have HST := Lib.hid hst
            have HM5 := Lib.hid (show 1 ≤ M * (Z : Int) ∧ M * (Z : Int) ≤ 29997 by omega)
            clear hst hM hmul hmul2
            generalize ((L - d : Nat) : Int) = g at *
            go_wp2_with fail
            go_round
            case rel => exact ⟨d+1, M * (Z : Int), by omega, by rw [← hsub.out], rfl, HM5.out.1, HM5.out.2, HST.out⟩
            case measure => simp [intOf]; omega
          · have hst : min M 10000 = cwN Z (sumW ar Z (k+1)) := by
              have e := cwN_top (sz := (Z : Int)) z1 (n := sumW ar Z k + d) (by rw [← hM]; omega) (L - d)
              rw [HS.out, show sumW ar Z k + L = sumW ar Z k + d + (L - d) by omega, e]; omega
            have HST := Lib.hid hst
            have hpos : (0 : Int) < ((L - d : Nat) : Int) := by omega
            clear hst hM
            generalize ((L - d : Nat) : Int) = g at *
            go_wp2_with fail
            go_roundw
            case rel => exact ⟨k+1, M, by omega, by go_num, rfl, m1, m2, HST.out, hb.step hb2⟩
            case measure => simp [intOf]; omega
        · obtain rfl : d = L := by omega
          have HST : Hid (min M 10000 = cwN Z (sumW ar Z (k+1))) := by show _ = _; rw [HS.out]; exact hM
          have hz : ((d - d : Nat) : Int) = 0 := by simp
          rw [hz]
          clear hM hz
          go_wp2_with fail
          go_roundw
          case rel => exact ⟨k+1, M, by omega, by go_num, rfl, m1, m2, HST.out, hb.step hb2⟩
          case measure => simp [intOf]; omega
    · obtain rfl : k = ar.length := by omega
      have HN := Lib.hid hN
      clear hN hlt
      go_wp2_with fail
      refine (l1Least_c _ _ _).mono ?_; rintro e w2 ⟨rfl, hb2⟩
      rw [HN.out]
      go_wp2_with fail
      go_ret
      exact ⟨rfl, (hB.step hb).step hb2⟩

set_option maxRecDepth 100000 in
set_option maxHeartbeats 400000 in
theorem sCountWorlds_t {l h : Nat} {v : Value} {ar : List Int} {sz : Int} {w : World} (ha : ar.length ≤ 1048576) (hv : SlI l h w v ar) (_ : -9223372036854775808 ≤ sz) (_ : sz ≤ 9223372036854775807) :
    Calls Try.prog 22 #[.agg #[v], .int .i64 sz] w (RetV w (.tuple #[.int .i64 (worldsAns ar sz), .bool (goodSign ar && inB sz 1 3)])) := by
  unfold worldsAns
  cases hg : goodSign ar with
  | false =>
    rw [Bool.false_and, if_neg (by simp)]
    have HC := Lib.hid (fun (w' : World) (hb : Bel w w') => sGoodSign_v l h v ar false w' hg ha (hv.below hb)); clear hg
    go_enter Try.func22, Try.ntmps22
    go_wp2_with fail
    refine (HC.out _ (Bel.alloc0 _ _)).mono ?_; rintro e w1 ⟨rfl, hb1⟩
    go_wp2_with fail
    go_ret2
    exact ⟨rfl, hb1.of_alloc⟩
  | true =>
    rw [Bool.true_and]
    have HC := Lib.hid (fun (w' : World) (hb : Bel w w') => sGoodSign_v l h v ar true w' hg ha (hv.below hb))
    cases h1 : inB sz 1 3 with
    | false =>
      rw [if_neg (by simp)]
      have HI := Lib.hid h1
      clear hg h1
      go_enter Try.func22, Try.ntmps22
      go_wp2_with fail
      refine (HC.out _ (Bel.alloc0 _ _)).mono ?_; rintro e w1 ⟨rfl, hb1⟩
      go_wp2_with fail
      refine (l1In_qv _ _ _ _ HI.out _).mono ?_; rintro e w2 ⟨rfl, rfl⟩
      go_wp2_with fail
      go_ret2
      exact ⟨rfl, hb1.of_alloc⟩
    | true =>
      rw [if_pos rfl]
      have HI := Lib.hid h1
      have HD := Lib.hid (fun (w' : World) (hb : Bel w w') => l5Worlds_c l h v ar sz w' hg h1 (hv.below hb))
      clear hg h1
      generalize cwN sz (sumW ar sz ar.length) = q at *
      go_enter Try.func22, Try.ntmps22
      go_wp2_with fail
      refine (HC.out _ (Bel.alloc0 _ _)).mono ?_; rintro e w1 ⟨rfl, hb1⟩
      have hbox := boxc hb1 0 _ rfl
      go_wp2_with fail
      refine (l1In_qv _ _ _ _ HI.out _).mono ?_; rintro e w2 ⟨rfl, rfl⟩
      go_wp2_with fail
      refine (HD.out _ hb1.of_alloc).mono ?_; rintro e w3 ⟨rfl, hb3⟩
      go_wp2_with fail
      go_ret2
      exact ⟨rfl, hb1.of_alloc.step hb3⟩
end Go.Proofs.Ytlcjcihohclmhaa
end
