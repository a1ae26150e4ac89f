/- The draws: a term. -/
import Derived.Test.YtngdhpelnjckjaaDraw2
import Derived.Test.YtngdhpelnjckjaaSlice
import Derived.Test.YtngdhpelnjckjaaTag
import Derived.Test.YtngdhpelnjckjaaUni
namespace Go.Proofs.Ytngdhpelnjckjaa
open Go.RowKit

theorem row_chg {w w' : World} {b base : Nat} {e : TypeId} {v : Value} {m : Nat} {xs : List Value} (h : w.ownsRow base e 1 v m xs) (hb : b < base) (k : Chg b (b+1) w w') : w'.ownsRow base e 1 v m xs := by
  refine ⟨h.1, ?_⟩
  rcases h.2 with h0 | ⟨g, cap, cur, e1, e2, hh, r⟩
  · exact .inl h0
  · exact .inr ⟨g, cap, cur, e1, e2, by rw [k.block g (Array.getElem?_eq_some_iff.1 hh).1 (by omega)]; exact hh, r⟩
theorem lit_row (w : World) (x : Int) : (w.alloc (.cells #[.int .i64 x] 3)).ownsRow w.heap.size 3 1 (.slice (some ⟨w.heap.size, 0, none⟩) 1 1) [x].length ([x].map (Value.int .i64)) :=
  World.ownsRow_lit w #[.int .i64 x] 1 (Nat.le_refl _) (by unfold maxLen; omega) rfl
theorem lit_row' (w : World) (x : Int) (B : Nat) (hB : B = w.heap.size) : (w.alloc (.cells #[.int .i64 x] 3)).ownsRow B 3 1 (.slice (some ⟨B, 0, none⟩) 1 1) [x].length ([x].map (Value.int .i64)) := hB ▸ lit_row w x
theorem drawn_len {ar : List Int} (h : drawn ar) : ar.length ≤ 6 := by rcases h with rfl | rfl | rfl | rfl <;> simp
theorem drawn_get {ar : List Int} (h : drawn ar) (n : Nat) : 0 ≤ ar.getD n 0 ∧ ar.getD n 0 ≤ 3 := by
  have hl := drawn_len h
  by_cases hn : n < ar.length
  · have : ∀ x ∈ ar, 0 ≤ x ∧ x ≤ 3 := by rcases h with rfl | rfl | rfl | rfl <;> simp
    exact this _ (by simp [List.getD, hn])
  · simp [List.getD, hn]
/-- How long a term of the draws may be, and how many bytes it may take. -/
def tl : Nat → Nat
  | 0 => 1
  | d + 1 => 1 + 3 * tl d
def dk : Nat → Nat
  | 0 => 8
  | d + 1 => 8 + 3 * dk d
theorem tl_pos (d : Nat) : 1 ≤ tl d := by cases d <;> simp [tl]
theorem tl_le (d : Nat) (h : d ≤ 5) : tl d ≤ 400 := by
  match d, h with
  | 0, _ => simp [tl]
  | 1, _ => simp [tl]
  | 2, _ => simp [tl]
  | 3, _ => simp [tl]
  | 4, _ => simp [tl]
  | 5, _ => simp [tl]
theorem dk_le (d : Nat) (h : d ≤ 5) : dk d ≤ 4000 := by
  match d, h with
  | 0, _ => simp [dk]
  | 1, _ => simp [dk]
  | 2, _ => simp [dk]
  | 3, _ => simp [dk]
  | 4, _ => simp [dk]
  | 5, _ => simp [dk]
theorem open_sym {ar : List Int} {x : Nat} (hx : x < ar.length) (s : List Int) (h : seqT ar (ar.getD x 0).toNat s) : seqT ar 1 ((x : Int) :: s) := by
  refine seqT_cons.2 ⟨by unfold okSym inB; simp; omega, ?_⟩
  have : arOf ar (x : Int) = (ar.getD x 0).toNat := by unfold arOf; rw [if_neg (by omega)]; rfl
  rw [this, Nat.zero_add]; exact h
theorem seq_nil (ar : List Int) : seqT ar 0 [] := rfl
theorem seq_var {ar : List Int} (hl : 0 < ar.length) {x : Nat} (hx : x < 12) : seqT ar 1 [-1 - (x : Int)] := by
  refine seqT_cons.2 ⟨by unfold okSym inB; simp; omega, ?_⟩
  rw [arOf_neg (by omega)]; exact seq_nil ar
theorem seq_zero {ar : List Int} (hg : goodSign ar = true) : seqT ar 1 [0] := by
  have h1 := sign_len ar hg
  have h0 : ar.getD 0 0 = 0 := by
    simp only [goodSign, Bool.and_eq_true] at hg
    simpa using hg.2
  have := open_sym (ar := ar) (x := 0) (by omega) [] (by rw [h0]; exact seq_nil ar)
  exact this
/-- A term of the draws: of the call's own; a term where the signature is one. -/
def RetT (ar : List Int) (b n k d L : Nat) (w : World) (e : Ending) (w' : World) : Prop :=
  ∃ (ad : Option Addr) (m c : Nat) (t : List Int) (k' : Nat), e = .returned (.slice ad m c) ∧ w'.ownsRow w.heap.size 3 1 (.slice ad m c) t.length (t.map (Value.int .i64)) ∧ 1 ≤ t.length ∧ t.length ≤ L ∧ (goodSign ar = true → seqT ar 1 t) ∧ k ≤ k' ∧ k' ≤ k + d ∧ Cur b n k' w' ∧ Chg b (b+1) w w'

set_option maxRecDepth 100000 in
set_option maxHeartbeats 2000000 in
theorem term_c (b n : Nat) (hn : n ≤ 1099511627776) : ∀ (deep : Nat), 1 ≤ deep → deep ≤ 5 → ∀ (k vars lo hi : Nat) (v : Value) (ar : List Int) (w : World), drawn ar → b < lo → vars ≤ 12 → k + dk deep ≤ 549755813888 → Cur b n k w → SlI lo hi w v ar →
    Calls Try.prog 88 #[.pointer (some ⟨b, 0, none⟩), .agg #[v], .int .i64 deep, .int .i64 vars] w (RetT ar b n k (dk deep) (tl deep) w) := by
  intro deep
  induction deep with
  | zero => intro h; omega
  | succ d ih =>
    intro _ hd5 k vars lo hi v ar w hdr hblo hvars hk hc hv
    have hbl := hc.lt
    have hal := drawn_len hdr
    have hag := drawn_get hdr
    have hdk := dk_le d (by omega)
    have htl := tl_le d (by omega)
    have htp := tl_pos d
    have hDK : Hid (dk (d+1) = 8 + 3 * dk d) := rfl
    have hTL : Hid (tl (d+1) = 1 + 3 * tl d) := rfl
    have hkd : k + (8 + 3 * dk d) ≤ 549755813888 := hk
    clear hk
    generalize dk (d+1) = DK at *
    generalize tl (d+1) = TL at *
    obtain ⟨va, vc, rfl⟩ := hv.form
    have hv1 := hv.alloc (.cells #[.slice va ar.length vc] 26)
    have hc1 := hc.below (Bel.alloc0 w (.cells #[.slice va ar.length vc] 26))
    have hbox : (w.alloc (.cells #[.slice va ar.length vc] 26)).cell? ⟨w.heap.size, 0, none⟩ = some (.slice va ar.length vc) := by rw [World.cell?_alloc_new w]; rfl
    have hB0 : Bel w (w.alloc (.cells #[.slice va ar.length vc] 26)) := Bel.alloc0 _ _
    have hz0 : (w.alloc (.cells #[.slice va ar.length vc] 26)).heap.size = w.heap.size + 1 := by simp
    obtain ⟨i0, hi0, hz0', hz1, hz2⟩ := info_parts Try.info3
    generalize hzv : (vars : Int) = zv
    have HZV := Lib.hid hzv
    have hzv0 : 0 ≤ zv := by omega
    clear hzv
    generalize hzd : ((d + 1 : Nat) : Int) = zd
    have HZ := Lib.hid hzd
    clear hzd
    go_enter Try.func88, Try.ntmps88
    rcases Nat.eq_zero_or_pos ar.length with h0 | hpos
    · obtain rfl : ar = [] := List.length_eq_zero_iff.1 h0
      simp only [List.length_nil] at hbox
      go_wp2_with fail
      go_ret
      exact ⟨_, 1, 1, [0], k, rfl, row_mono (lit_row' _ 0 _ (by simp)) (by simp), by simp, by have := hTL.out; simp; omega, fun h => by simp [goodSign, inB] at h, Nat.le_refl _, by omega, hc1.below (Bel.alloc0 _ _), Chg.of_bel (Bel.alloc2 _ _ _)⟩
    · have hne : ((ar.length : Int) == 0) = false := by rw [beq_eq_false_iff_ne]; omega
      by_cases hv0 : 0 < zv
      · go_wp2_with fail
        refine (one_c b n k _ 3 _ rfl hn (by omega) (by omega) hc1).mono ?_; rintro e w1 ⟨q, k1, rfl, hk1, hk2, hcW, hgW⟩
        have hbW0 := hgW.cell (by simp) (by omega) hbox
        cases q with
        | true =>
          go_wp2_with fail
          refine (pick_c b n k1 zv vars _ HZV.out.symm hn (by omega) (by omega) hcW).mono ?_; rintro e w2 ⟨x, k2, rfl, hx, hk3, hk4, hc3, hg2⟩
          have hw26 := IntWalk.i64_in (-1 - (x : Int)) (by omega)
          have hvp : 0 < vars := by have := HZV.out; omega
          go_wp2_with fail
          go_ret
          have hg3 := hgW.trans hg2
          have hB := (Chg.of_bel (lo := b) (hi := b+1) hB0).trans hg3
          exact ⟨_, 1, 1, [-1 - (x : Int)], k2, rfl, row_mono (lit_row w2 _) (by have := hg3.size; simp at this; omega), by simp, by have := hTL.out; simp; omega, fun _ => seq_var hpos (by omega), by omega, by have := hDK.out; omega, hc3.below (Bel.alloc0 _ _), hB.trans (Chg.of_bel (Bel.alloc0 _ _))⟩
        | false =>
          go_wp2_with fail
          refine (pick_c b n k1 _ ar.length _ rfl hn (by omega) (by omega) hcW).mono ?_; rintro e w2 ⟨x, k2, rfl, hx, hk3, hk4, hc3, hg2⟩
          have hx6 : x < ar.length := by omega
          replace hgW := hgW.trans hg2
          replace hcW := hc3
          have hbW := hgW.cell (by simp) (by omega) hbox
          have hv2 := hv1.chg hgW (by omega)
          obtain ⟨sb, so, rfl, hsb, hcellA⟩ := hv2.at x hx6
          have hax := hag x
          have HOp := Lib.hid (open_sym (ar := ar) hx6)
          generalize ar.getD x 0 = a1 at *
          have hxl : (x : Int) < ar.length := by omega
          clear hc3 hg2
          by_cases ha0 : 0 < a1
          · by_cases hd0 : d = 0
            · have hdle : zd ≤ 1 := by have := HZ.out; omega
              go_wp2_with fail
              refine (pick_c b n k2 _ ar.length _ rfl hn (by omega) (by omega) hcW).mono ?_; rintro e w5 ⟨y, k5, rfl, hy, hk5, hk6, hc5, hg5⟩
              have hy6 : y / 2 < ar.length := by omega
              clear hcellA hbW hv2 hsb HOp
              clear hax
              replace hgW := hgW.trans hg5
              replace hcW := hc5
              have hbW := hgW.cell (by simp) (by omega) hbox
              have hv2 := hv1.chg hgW (by omega)
              obtain ⟨sb2, so2, e2, hsb, hcellA⟩ := hv2.at (y / 2) hy6
              simp only [Option.some.injEq, Addr.mk.injEq, and_true] at e2
              obtain ⟨rfl, rfl⟩ := e2
              have hax := hag (y / 2)
              have hyl : ((y : Int) / 2) < ar.length := by omega
              have hyt : ((y : Int) / 2).toNat = y / 2 := by omega
              have hy0 : 0 ≤ (y : Int) / 2 := by omega
              have hyc : (((y / 2 : Nat)) : Int) = (y : Int) / 2 := by omega
              have HOp := open_sym (ar := ar) hy6
              rw [hyc] at HOp
              replace HOp := Lib.hid HOp
              clear hc5 hg5
              generalize ar.getD (y / 2) 0 = a2 at *
              have hcellB := hcellA
              rw [← hyt] at hcellA
              clear hyt
              by_cases ha2 : 0 < a2
              · go_wp2_with fail
                go_ret
                have hB := (Chg.of_bel (lo := b) (hi := b+1) hB0).trans hgW
                exact ⟨_, 1, 1, [0], k5, rfl, row_mono (lit_row w5 0) (by have := hgW.size; simp at this; omega), by simp, by have := hTL.out; simp; omega, fun hgs => seq_zero hgs, by omega, by have := hDK.out; omega, hcW.below (Bel.alloc0 _ _), hB.trans (Chg.of_bel (Bel.alloc0 _ _))⟩
              · have ha2d : ¬ 0 < a2 := ha2
                have hq : (a2.toNat : Int) = a2 := by omega
                have hq3 : a2.toNat ≤ 3 := by omega
                have hszW := hgW.size
                simp only [World.size_alloc] at hszW
                have hbW4 := (Bel.alloc0 w5 (.cells #[.int .i64 ((y : Int) / 2)] 3)).at (by omega) hbW
                have hcell4 := (Bel.alloc0 w5 (.cells #[.int .i64 ((y : Int) / 2)] 3)).at hsb hcellA
                have hcell5 := (Bel.alloc0 w5 (.cells #[.int .i64 ((y : Int) / 2)] 3)).at hsb hcellB
                have hrow := row_mono (lit_row w5 ((y : Int) / 2)) (show w.heap.size + 1 ≤ w5.heap.size by omega)
                have hcW4 := hcW.below (Bel.alloc0 w5 (.cells #[.int .i64 ((y : Int) / 2)] 3))
                have hgW4 := hgW.trans (Chg.of_bel (Bel.alloc0 w5 (.cells #[.int .i64 ((y : Int) / 2)] 3)))
                have HR := Lib.hid (And.intro hrow (And.intro hcW4 (And.intro hgW4 HOp.out)))
                clear hrow hcW4 hgW4 hcW hgW HOp
                go_wp2_with fail
                go_loopw [10, 11] (fun vo i wr => ∃ (j : Nat) (acc : List Int) (k9 : Nat), j ≤ a2.toNat ∧ i = .int .i64 j ∧ wr.ownsRow (w.heap.size + 1) 3 1 vo acc.length (acc.map (Value.int .i64)) ∧ 1 ≤ acc.length ∧ acc.length ≤ 1 + (3 - j) * tl d ∧ k5 ≤ k9 ∧ k9 ≤ k5 + (3 - j) * dk d ∧ Cur b n k9 wr ∧ Chg b (b+1) (w.alloc (.cells #[.slice (some ⟨sb, so, none⟩) ar.length vc] 26)) wr ∧ Hid (goodSign ar = true → ∀ s, seqT ar j s → seqT ar 1 (acc ++ s))) (fun _ i _ => (intOf i).toNat)
                case atStart => exact ⟨a2.toNat, [(y : Int) / 2], k5, Nat.le_refl _, by rw [hq], HR.out.1, by simp, by simp, Nat.le_refl _, by omega, HR.out.2.1, HR.out.2.2.1, Lib.hid (fun _ s h => HR.out.2.2.2 s h)⟩
                case round =>
                  obtain ⟨j, acc, k9, hj, rfl, hown, ha1, ha2, hk91, hk92, hc9, hg9, hop9⟩ := hrel
                  have hsz9 := hg9.size
                  simp only [World.size_alloc] at hsz9
                  by_cases hj0 : 0 < j
                  · exact absurd hj0 (by omega)
                  · obtain rfl : j = 0 := by omega
                    obtain ⟨ao, no, co, rfl⟩ := own_form hown
                    have hB := (Chg.of_bel (lo := b) (hi := b+1) hB0).trans hg9
                    have hDK2 := hDK.out
                    have hTL2 := hTL.out
                    clear hcell4 hbW4
                    go_wp2_with fail
                    go_ret
                    exact ⟨ao, no, co, acc, k9, rfl, row_mono hown (by omega), ha1, by omega, fun hgs => (by have := hop9.out hgs [] (seq_nil ar); rwa [List.append_nil] at this), by omega, by omega, hc9, hB⟩
            · have hdle : ¬ zd ≤ 1 := by have := HZ.out; omega
              have hq : (a1.toNat : Int) = a1 := by omega
              have hq3 : a1.toNat ≤ 3 := by omega
              have hszW := hgW.size
              simp only [World.size_alloc] at hszW
              have hbW4 := (Bel.alloc0 w2 (.cells #[.int .i64 ((x : Int))] 3)).at (by omega) hbW
              have hcell4 := (Bel.alloc0 w2 (.cells #[.int .i64 ((x : Int))] 3)).at hsb hcellA
              have hrow := row_mono (lit_row w2 ((x : Int))) (show w.heap.size + 1 ≤ w2.heap.size by omega)
              have hcW4 := hcW.below (Bel.alloc0 w2 (.cells #[.int .i64 ((x : Int))] 3))
              have hgW4 := hgW.trans (Chg.of_bel (Bel.alloc0 w2 (.cells #[.int .i64 ((x : Int))] 3)))
              have HR := Lib.hid (And.intro hrow (And.intro hcW4 (And.intro hgW4 HOp.out)))
              clear hrow hcW4 hgW4 hcW hgW HOp
              go_wp2_with fail
              go_loopw [10, 11] (fun vo i wr => ∃ (j : Nat) (acc : List Int) (k9 : Nat), j ≤ a1.toNat ∧ i = .int .i64 j ∧ wr.ownsRow (w.heap.size + 1) 3 1 vo acc.length (acc.map (Value.int .i64)) ∧ 1 ≤ acc.length ∧ acc.length ≤ 1 + (3 - j) * tl d ∧ k2 ≤ k9 ∧ k9 ≤ k2 + (3 - j) * dk d ∧ Cur b n k9 wr ∧ Chg b (b+1) (w.alloc (.cells #[.slice (some ⟨sb, so, none⟩) ar.length vc] 26)) wr ∧ Hid (goodSign ar = true → ∀ s, seqT ar j s → seqT ar 1 (acc ++ s))) (fun _ i _ => (intOf i).toNat)
              case atStart => exact ⟨a1.toNat, [(x : Int)], k2, Nat.le_refl _, by rw [hq], HR.out.1, by simp, by simp, Nat.le_refl _, by omega, HR.out.2.1, HR.out.2.2.1, Lib.hid (fun _ s h => HR.out.2.2.2 s h)⟩
              case round =>
                obtain ⟨j, acc, k9, hj, rfl, hown, ha1, ha2, hk91, hk92, hc9, hg9, hop9⟩ := hrel
                have hsz9 := hg9.size
                simp only [World.size_alloc] at hsz9
                by_cases hj0 : 0 < j
                · have hd1 : 1 ≤ d := by omega
                  have hbx9 := hg9.cell (by simp) (by omega) hbox
                  have hv9 := hv1.chg hg9 (by omega)
                  have hm1 : (3 - (j - 1)) * tl d = (3 - j) * tl d + tl d := by
                    have : 3 - (j - 1) = (3 - j) + 1 := by omega
                    rw [this, Nat.add_mul, Nat.one_mul]
                  have hm2 : (3 - (j - 1)) * dk d = (3 - j) * dk d + dk d := by
                    have : 3 - (j - 1) = (3 - j) + 1 := by omega
                    rw [this, Nat.add_mul, Nat.one_mul]
                  have hm3 : (3 - j) * dk d ≤ 3 * dk d := Nat.mul_le_mul_right _ (by omega)
                  have hm4 : (3 - j) * tl d ≤ 3 * tl d := Nat.mul_le_mul_right _ (by omega)
                  have hm5 : (3 - (j - 1)) * dk d ≤ 3 * dk d := Nat.mul_le_mul_right _ (by omega)
                  have HT := ih hd1 (by omega) k9 vars lo hi _ ar wr hdr hblo hvars (by omega) hc9 hv9
                  have hzd2 : zd - 1 = d := by have := HZ.out; omega
                  rw [HZV.out] at HT
                  replace HT := Lib.hid HT
                  have hw75 := IntWalk.i64_in (zd - 1) (by omega)
                  have hw70 := IntWalk.i64_in ((j : Int) - 1) (by omega)
                  have HM := Lib.hid (And.intro hm1 (And.intro hm2 (And.intro hm3 hm4)))
                  clear hm1 hm2 hm3 hm4 hm5 hcell4 hbW4
                  go_wp2_with (first | (go_at_call 88; refine HT.out.mono ?_; rintro e w7 ⟨a7, m7, c7, t7, k7, rfl, hrow7, ht1, ht2, hseq7, hk71, hk72, hc7, hg7⟩; have hm7 : m7 = t7.length := row_len hrow7; subst hm7; have hown7 := row_chg hown (by omega) hg7; have hs7 := (OwnI.of_row hrow7).sl; obtain ⟨tb, tof, tc, e7, -⟩ := hs7.plain (by omega); cases e7; have hn7 := news_of_sl hs7; have hsz7 := hg7.size) | (at_builtin; refine wpList_append_own _ rfl _ _ 24 rfl (w.heap.size + 1) 3 i0 (.int .i64 0) 1 8 Try.underlying24 hi0 hz0' hz1 hz2 rfl (by decide) _ _ _ rfl hown7 _ t7.length _ (t7.map (Value.int .i64)) rfl (by simp) hn7 (ones_int _) (by unfold maxLen; have := HM.out.2.2.2; omega) (by have := HM.out.2.2.2; omega) (by omega) ?_; intro v' w8 hown' hgrow _))
                  obtain ⟨hm1, hm2, hm3, hm4⟩ := HM.out
                  have hg8 : Chg (w.heap.size + 1) w8.heap.size w7 w8 := ⟨hgrow.os, hgrow.tape, hgrow.output, hgrow.size, fun i hi ho => hgrow.block i hi (fun e => by have := own_base hown7 i e.symm; have := hgrow.size; omega)⟩
                  have hown8 : w8.ownsRow (w.heap.size + 1) 3 1 v' (acc ++ t7).length ((acc ++ t7).map (Value.int .i64)) := by simpa using hown'
                  have hop8 : Hid (goodSign ar = true → ∀ s, seqT ar (j - 1) s → seqT ar 1 ((acc ++ t7) ++ s)) := Lib.hid (fun hgs s hs => by
                    rw [List.append_assoc]
                    refine hop9.out hgs (t7 ++ s) ?_
                    have := seqT_append (hseq7 hgs) hs
                    rwa [show 1 + (j - 1) = j by omega] at this)
                  go_roundw
                  case rel => exact ⟨j - 1, acc ++ t7, k7, by omega, by go_num, hown8, by simp; omega, by rw [List.length_append, hm1]; omega, by omega, by rw [hm2]; omega, hc7.chg hg8 (by omega), (hg9.trans hg7).news hg8 (by simp), hop8⟩
                  case measure => simp [intOf]; omega
                · obtain rfl : j = 0 := by omega
                  obtain ⟨ao, no, co, rfl⟩ := own_form hown
                  have hB := (Chg.of_bel (lo := b) (hi := b+1) hB0).trans hg9
                  have hDK2 := hDK.out
                  have hTL2 := hTL.out
                  clear hcell4 hbW4
                  go_wp2_with fail
                  go_ret
                  exact ⟨ao, no, co, acc, k9, rfl, row_mono hown (by omega), ha1, by omega, fun hgs => (by have := hop9.out hgs [] (seq_nil ar); rwa [List.append_nil] at this), by omega, by omega, hc9, hB⟩
          · have ha1d : ¬ 0 < a1 := ha0
            have hq : (a1.toNat : Int) = a1 := by omega
            have hq3 : a1.toNat ≤ 3 := by omega
            have hszW := hgW.size
            simp only [World.size_alloc] at hszW
            have hbW4 := (Bel.alloc0 w2 (.cells #[.int .i64 ((x : Int))] 3)).at (by omega) hbW
            have hcell4 := (Bel.alloc0 w2 (.cells #[.int .i64 ((x : Int))] 3)).at hsb hcellA
            have hrow := row_mono (lit_row w2 ((x : Int))) (show w.heap.size + 1 ≤ w2.heap.size by omega)
            have hcW4 := hcW.below (Bel.alloc0 w2 (.cells #[.int .i64 ((x : Int))] 3))
            have hgW4 := hgW.trans (Chg.of_bel (Bel.alloc0 w2 (.cells #[.int .i64 ((x : Int))] 3)))
            have HR := Lib.hid (And.intro hrow (And.intro hcW4 (And.intro hgW4 HOp.out)))
            clear hrow hcW4 hgW4 hcW hgW HOp
            go_wp2_with fail
            go_loopw [10, 11] (fun vo i wr => ∃ (j : Nat) (acc : List Int) (k9 : Nat), j ≤ a1.toNat ∧ i = .int .i64 j ∧ wr.ownsRow (w.heap.size + 1) 3 1 vo acc.length (acc.map (Value.int .i64)) ∧ 1 ≤ acc.length ∧ acc.length ≤ 1 + (3 - j) * tl d ∧ k2 ≤ k9 ∧ k9 ≤ k2 + (3 - j) * dk d ∧ Cur b n k9 wr ∧ Chg b (b+1) (w.alloc (.cells #[.slice (some ⟨sb, so, none⟩) ar.length vc] 26)) wr ∧ Hid (goodSign ar = true → ∀ s, seqT ar j s → seqT ar 1 (acc ++ s))) (fun _ i _ => (intOf i).toNat)
            case atStart => exact ⟨a1.toNat, [(x : Int)], k2, Nat.le_refl _, by rw [hq], HR.out.1, by simp, by simp, Nat.le_refl _, by omega, HR.out.2.1, HR.out.2.2.1, Lib.hid (fun _ s h => HR.out.2.2.2 s h)⟩
            case round =>
              obtain ⟨j, acc, k9, hj, rfl, hown, ha1, ha2, hk91, hk92, hc9, hg9, hop9⟩ := hrel
              have hsz9 := hg9.size
              simp only [World.size_alloc] at hsz9
              by_cases hj0 : 0 < j
              · exact absurd hj0 (by omega)
              · obtain rfl : j = 0 := by omega
                obtain ⟨ao, no, co, rfl⟩ := own_form hown
                have hB := (Chg.of_bel (lo := b) (hi := b+1) hB0).trans hg9
                have hDK2 := hDK.out
                have hTL2 := hTL.out
                clear hcell4 hbW4
                go_wp2_with fail
                go_ret
                exact ⟨ao, no, co, acc, k9, rfl, row_mono hown (by omega), ha1, by omega, fun hgs => (by have := hop9.out hgs [] (seq_nil ar); rwa [List.append_nil] at this), by omega, by omega, hc9, hB⟩
      · have hk1 : k ≤ k := Nat.le_refl _
        have hk2 : k ≤ k + 2 := by omega
        have hcW := hc1
        have hgW := Chg.refl b (b+1) (w.alloc (.cells #[.slice va ar.length vc] 26))
        go_wp2_with fail
        refine (pick_c b n k _ ar.length _ rfl hn (by omega) (by omega) hcW).mono ?_; rintro e w2 ⟨x, k2, rfl, hx, hk3, hk4, hc3, hg2⟩
        have hx6 : x < ar.length := by omega
        replace hgW := hgW.trans hg2
        replace hcW := hc3
        have hbW := hgW.cell (by simp) (by omega) hbox
        have hv2 := hv1.chg hgW (by omega)
        obtain ⟨sb, so, rfl, hsb, hcellA⟩ := hv2.at x hx6
        have hax := hag x
        have HOp := Lib.hid (open_sym (ar := ar) hx6)
        generalize ar.getD x 0 = a1 at *
        have hxl : (x : Int) < ar.length := by omega
        clear hc3 hg2
        by_cases ha0 : 0 < a1
        · by_cases hd0 : d = 0
          · have hdle : zd ≤ 1 := by have := HZ.out; omega
            go_wp2_with fail
            refine (pick_c b n k2 _ ar.length _ rfl hn (by omega) (by omega) hcW).mono ?_; rintro e w5 ⟨y, k5, rfl, hy, hk5, hk6, hc5, hg5⟩
            have hy6 : y / 2 < ar.length := by omega
            clear hcellA hbW hv2 hsb HOp
            clear hax
            replace hgW := hgW.trans hg5
            replace hcW := hc5
            have hbW := hgW.cell (by simp) (by omega) hbox
            have hv2 := hv1.chg hgW (by omega)
            obtain ⟨sb2, so2, e2, hsb, hcellA⟩ := hv2.at (y / 2) hy6
            simp only [Option.some.injEq, Addr.mk.injEq, and_true] at e2
            obtain ⟨rfl, rfl⟩ := e2
            have hax := hag (y / 2)
            have hyl : ((y : Int) / 2) < ar.length := by omega
            have hyt : ((y : Int) / 2).toNat = y / 2 := by omega
            have hy0 : 0 ≤ (y : Int) / 2 := by omega
            have hyc : (((y / 2 : Nat)) : Int) = (y : Int) / 2 := by omega
            have HOp := open_sym (ar := ar) hy6
            rw [hyc] at HOp
            replace HOp := Lib.hid HOp
            clear hc5 hg5
            generalize ar.getD (y / 2) 0 = a2 at *
            have hcellB := hcellA
            rw [← hyt] at hcellA
            clear hyt
            by_cases ha2 : 0 < a2
            · go_wp2_with fail
              go_ret
              have hB := (Chg.of_bel (lo := b) (hi := b+1) hB0).trans hgW
              exact ⟨_, 1, 1, [0], k5, rfl, row_mono (lit_row w5 0) (by have := hgW.size; simp at this; omega), by simp, by have := hTL.out; simp; omega, fun hgs => seq_zero hgs, by omega, by have := hDK.out; omega, hcW.below (Bel.alloc0 _ _), hB.trans (Chg.of_bel (Bel.alloc0 _ _))⟩
            · have ha2d : ¬ 0 < a2 := ha2
              have hq : (a2.toNat : Int) = a2 := by omega
              have hq3 : a2.toNat ≤ 3 := by omega
              have hszW := hgW.size
              simp only [World.size_alloc] at hszW
              have hbW4 := (Bel.alloc0 w5 (.cells #[.int .i64 ((y : Int) / 2)] 3)).at (by omega) hbW
              have hcell4 := (Bel.alloc0 w5 (.cells #[.int .i64 ((y : Int) / 2)] 3)).at hsb hcellA
              have hcell5 := (Bel.alloc0 w5 (.cells #[.int .i64 ((y : Int) / 2)] 3)).at hsb hcellB
              have hrow := row_mono (lit_row w5 ((y : Int) / 2)) (show w.heap.size + 1 ≤ w5.heap.size by omega)
              have hcW4 := hcW.below (Bel.alloc0 w5 (.cells #[.int .i64 ((y : Int) / 2)] 3))
              have hgW4 := hgW.trans (Chg.of_bel (Bel.alloc0 w5 (.cells #[.int .i64 ((y : Int) / 2)] 3)))
              have HR := Lib.hid (And.intro hrow (And.intro hcW4 (And.intro hgW4 HOp.out)))
              clear hrow hcW4 hgW4 hcW hgW HOp
              go_wp2_with fail
              go_loopw [10, 11] (fun vo i wr => ∃ (j : Nat) (acc : List Int) (k9 : Nat), j ≤ a2.toNat ∧ i = .int .i64 j ∧ wr.ownsRow (w.heap.size + 1) 3 1 vo acc.length (acc.map (Value.int .i64)) ∧ 1 ≤ acc.length ∧ acc.length ≤ 1 + (3 - j) * tl d ∧ k5 ≤ k9 ∧ k9 ≤ k5 + (3 - j) * dk d ∧ Cur b n k9 wr ∧ Chg b (b+1) (w.alloc (.cells #[.slice (some ⟨sb, so, none⟩) ar.length vc] 26)) wr ∧ Hid (goodSign ar = true → ∀ s, seqT ar j s → seqT ar 1 (acc ++ s))) (fun _ i _ => (intOf i).toNat)
              case atStart => exact ⟨a2.toNat, [(y : Int) / 2], k5, Nat.le_refl _, by rw [hq], HR.out.1, by simp, by simp, Nat.le_refl _, by omega, HR.out.2.1, HR.out.2.2.1, Lib.hid (fun _ s h => HR.out.2.2.2 s h)⟩
              case round =>
                obtain ⟨j, acc, k9, hj, rfl, hown, ha1, ha2, hk91, hk92, hc9, hg9, hop9⟩ := hrel
                have hsz9 := hg9.size
                simp only [World.size_alloc] at hsz9
                by_cases hj0 : 0 < j
                · exact absurd hj0 (by omega)
                · obtain rfl : j = 0 := by omega
                  obtain ⟨ao, no, co, rfl⟩ := own_form hown
                  have hB := (Chg.of_bel (lo := b) (hi := b+1) hB0).trans hg9
                  have hDK2 := hDK.out
                  have hTL2 := hTL.out
                  clear hcell4 hbW4
                  go_wp2_with fail
                  go_ret
                  exact ⟨ao, no, co, acc, k9, rfl, row_mono hown (by omega), ha1, by omega, fun hgs => (by have := hop9.out hgs [] (seq_nil ar); rwa [List.append_nil] at this), by omega, by omega, hc9, hB⟩
          · have hdle : ¬ zd ≤ 1 := by have := HZ.out; omega
            have hq : (a1.toNat : Int) = a1 := by omega
            have hq3 : a1.toNat ≤ 3 := by omega
            have hszW := hgW.size
            simp only [World.size_alloc] at hszW
            have hbW4 := (Bel.alloc0 w2 (.cells #[.int .i64 ((x : Int))] 3)).at (by omega) hbW
            have hcell4 := (Bel.alloc0 w2 (.cells #[.int .i64 ((x : Int))] 3)).at hsb hcellA
            have hrow := row_mono (lit_row w2 ((x : Int))) (show w.heap.size + 1 ≤ w2.heap.size by omega)
            have hcW4 := hcW.below (Bel.alloc0 w2 (.cells #[.int .i64 ((x : Int))] 3))
            have hgW4 := hgW.trans (Chg.of_bel (Bel.alloc0 w2 (.cells #[.int .i64 ((x : Int))] 3)))
            have HR := Lib.hid (And.intro hrow (And.intro hcW4 (And.intro hgW4 HOp.out)))
            clear hrow hcW4 hgW4 hcW hgW HOp
            go_wp2_with fail
            go_loopw [10, 11] (fun vo i wr => ∃ (j : Nat) (acc : List Int) (k9 : Nat), j ≤ a1.toNat ∧ i = .int .i64 j ∧ wr.ownsRow (w.heap.size + 1) 3 1 vo acc.length (acc.map (Value.int .i64)) ∧ 1 ≤ acc.length ∧ acc.length ≤ 1 + (3 - j) * tl d ∧ k2 ≤ k9 ∧ k9 ≤ k2 + (3 - j) * dk d ∧ Cur b n k9 wr ∧ Chg b (b+1) (w.alloc (.cells #[.slice (some ⟨sb, so, none⟩) ar.length vc] 26)) wr ∧ Hid (goodSign ar = true → ∀ s, seqT ar j s → seqT ar 1 (acc ++ s))) (fun _ i _ => (intOf i).toNat)
            case atStart => exact ⟨a1.toNat, [(x : Int)], k2, Nat.le_refl _, by rw [hq], HR.out.1, by simp, by simp, Nat.le_refl _, by omega, HR.out.2.1, HR.out.2.2.1, Lib.hid (fun _ s h => HR.out.2.2.2 s h)⟩
            case round =>
              obtain ⟨j, acc, k9, hj, rfl, hown, ha1, ha2, hk91, hk92, hc9, hg9, hop9⟩ := hrel
              have hsz9 := hg9.size
              simp only [World.size_alloc] at hsz9
              by_cases hj0 : 0 < j
              · have hd1 : 1 ≤ d := by omega
                have hbx9 := hg9.cell (by simp) (by omega) hbox
                have hv9 := hv1.chg hg9 (by omega)
                have hm1 : (3 - (j - 1)) * tl d = (3 - j) * tl d + tl d := by
                  have : 3 - (j - 1) = (3 - j) + 1 := by omega
                  rw [this, Nat.add_mul, Nat.one_mul]
                have hm2 : (3 - (j - 1)) * dk d = (3 - j) * dk d + dk d := by
                  have : 3 - (j - 1) = (3 - j) + 1 := by omega
                  rw [this, Nat.add_mul, Nat.one_mul]
                have hm3 : (3 - j) * dk d ≤ 3 * dk d := Nat.mul_le_mul_right _ (by omega)
                have hm4 : (3 - j) * tl d ≤ 3 * tl d := Nat.mul_le_mul_right _ (by omega)
                have hm5 : (3 - (j - 1)) * dk d ≤ 3 * dk d := Nat.mul_le_mul_right _ (by omega)
                have HT := ih hd1 (by omega) k9 vars lo hi _ ar wr hdr hblo hvars (by omega) hc9 hv9
                have hzd2 : zd - 1 = d := by have := HZ.out; omega
                rw [HZV.out] at HT
                replace HT := Lib.hid HT
                have hw75 := IntWalk.i64_in (zd - 1) (by omega)
                have hw70 := IntWalk.i64_in ((j : Int) - 1) (by omega)
                have HM := Lib.hid (And.intro hm1 (And.intro hm2 (And.intro hm3 hm4)))
                clear hm1 hm2 hm3 hm4 hm5 hcell4 hbW4
                go_wp2_with (first | (go_at_call 88; refine HT.out.mono ?_; rintro e w7 ⟨a7, m7, c7, t7, k7, rfl, hrow7, ht1, ht2, hseq7, hk71, hk72, hc7, hg7⟩; have hm7 : m7 = t7.length := row_len hrow7; subst hm7; have hown7 := row_chg hown (by omega) hg7; have hs7 := (OwnI.of_row hrow7).sl; obtain ⟨tb, tof, tc, e7, -⟩ := hs7.plain (by omega); cases e7; have hn7 := news_of_sl hs7; have hsz7 := hg7.size) | (at_builtin; refine wpList_append_own _ rfl _ _ 24 rfl (w.heap.size + 1) 3 i0 (.int .i64 0) 1 8 Try.underlying24 hi0 hz0' hz1 hz2 rfl (by decide) _ _ _ rfl hown7 _ t7.length _ (t7.map (Value.int .i64)) rfl (by simp) hn7 (ones_int _) (by unfold maxLen; have := HM.out.2.2.2; omega) (by have := HM.out.2.2.2; omega) (by omega) ?_; intro v' w8 hown' hgrow _))
                obtain ⟨hm1, hm2, hm3, hm4⟩ := HM.out
                have hg8 : Chg (w.heap.size + 1) w8.heap.size w7 w8 := ⟨hgrow.os, hgrow.tape, hgrow.output, hgrow.size, fun i hi ho => hgrow.block i hi (fun e => by have := own_base hown7 i e.symm; have := hgrow.size; omega)⟩
                have hown8 : w8.ownsRow (w.heap.size + 1) 3 1 v' (acc ++ t7).length ((acc ++ t7).map (Value.int .i64)) := by simpa using hown'
                have hop8 : Hid (goodSign ar = true → ∀ s, seqT ar (j - 1) s → seqT ar 1 ((acc ++ t7) ++ s)) := Lib.hid (fun hgs s hs => by
                  rw [List.append_assoc]
                  refine hop9.out hgs (t7 ++ s) ?_
                  have := seqT_append (hseq7 hgs) hs
                  rwa [show 1 + (j - 1) = j by omega] at this)
                go_roundw
                case rel => exact ⟨j - 1, acc ++ t7, k7, by omega, by go_num, hown8, by simp; omega, by rw [List.length_append, hm1]; omega, by omega, by rw [hm2]; omega, hc7.chg hg8 (by omega), (hg9.trans hg7).news hg8 (by simp), hop8⟩
                case measure => simp [intOf]; omega
              · obtain rfl : j = 0 := by omega
                obtain ⟨ao, no, co, rfl⟩ := own_form hown
                have hB := (Chg.of_bel (lo := b) (hi := b+1) hB0).trans hg9
                have hDK2 := hDK.out
                have hTL2 := hTL.out
                clear hcell4 hbW4
                go_wp2_with fail
                go_ret
                exact ⟨ao, no, co, acc, k9, rfl, row_mono hown (by omega), ha1, by omega, fun hgs => (by have := hop9.out hgs [] (seq_nil ar); rwa [List.append_nil] at this), by omega, by omega, hc9, hB⟩
        · have ha1d : ¬ 0 < a1 := ha0
          have hq : (a1.toNat : Int) = a1 := by omega
          have hq3 : a1.toNat ≤ 3 := by omega
          have hszW := hgW.size
          simp only [World.size_alloc] at hszW
          have hbW4 := (Bel.alloc0 w2 (.cells #[.int .i64 ((x : Int))] 3)).at (by omega) hbW
          have hcell4 := (Bel.alloc0 w2 (.cells #[.int .i64 ((x : Int))] 3)).at hsb hcellA
          have hrow := row_mono (lit_row w2 ((x : Int))) (show w.heap.size + 1 ≤ w2.heap.size by omega)
          have hcW4 := hcW.below (Bel.alloc0 w2 (.cells #[.int .i64 ((x : Int))] 3))
          have hgW4 := hgW.trans (Chg.of_bel (Bel.alloc0 w2 (.cells #[.int .i64 ((x : Int))] 3)))
          have HR := Lib.hid (And.intro hrow (And.intro hcW4 (And.intro hgW4 HOp.out)))
          clear hrow hcW4 hgW4 hcW hgW HOp
          go_wp2_with fail
          go_loopw [10, 11] (fun vo i wr => ∃ (j : Nat) (acc : List Int) (k9 : Nat), j ≤ a1.toNat ∧ i = .int .i64 j ∧ wr.ownsRow (w.heap.size + 1) 3 1 vo acc.length (acc.map (Value.int .i64)) ∧ 1 ≤ acc.length ∧ acc.length ≤ 1 + (3 - j) * tl d ∧ k2 ≤ k9 ∧ k9 ≤ k2 + (3 - j) * dk d ∧ Cur b n k9 wr ∧ Chg b (b+1) (w.alloc (.cells #[.slice (some ⟨sb, so, none⟩) ar.length vc] 26)) wr ∧ Hid (goodSign ar = true → ∀ s, seqT ar j s → seqT ar 1 (acc ++ s))) (fun _ i _ => (intOf i).toNat)
          case atStart => exact ⟨a1.toNat, [(x : Int)], k2, Nat.le_refl _, by rw [hq], HR.out.1, by simp, by simp, Nat.le_refl _, by omega, HR.out.2.1, HR.out.2.2.1, Lib.hid (fun _ s h => HR.out.2.2.2 s h)⟩
          case round =>
            obtain ⟨j, acc, k9, hj, rfl, hown, ha1, ha2, hk91, hk92, hc9, hg9, hop9⟩ := hrel
            have hsz9 := hg9.size
            simp only [World.size_alloc] at hsz9
            by_cases hj0 : 0 < j
            · exact absurd hj0 (by omega)
            · obtain rfl : j = 0 := by omega
              obtain ⟨ao, no, co, rfl⟩ := own_form hown
              have hB := (Chg.of_bel (lo := b) (hi := b+1) hB0).trans hg9
              have hDK2 := hDK.out
              have hTL2 := hTL.out
              clear hcell4 hbW4
              go_wp2_with fail
              go_ret
              exact ⟨ao, no, co, acc, k9, rfl, row_mono hown (by omega), ha1, by omega, fun hgs => (by have := hop9.out hgs [] (seq_nil ar); rwa [List.append_nil] at this), by omega, by omega, hc9, hB⟩
end Go.Proofs.Ytngdhpelnjckjaa
