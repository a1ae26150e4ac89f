/- Texts merged, part 6. -/
import Derived.Test.YteegjnobmbcjiaaGreatDoorMgFactor5
section
/- Chapter 4, the reference: tautologies. -/
namespace Go.Proofs.YteegjnobmbcjiaaGreatDoor
open Go.RowKit

theorem taut_out {c : List Lt} {k : Nat} (hk : k < c.length) (h : tautAt c k = true) : tautC c = true := List.any_eq_true.2 ⟨k, by simpa using hk, h⟩
theorem taut_none {c : List Lt} (h : ∀ k, k < c.length → tautAt c k = false) : tautC c = false := by
  unfold tautC
  rw [List.any_eq_false]
  intro k hk
  simp [h k (by simpa using hk)]

end Go.Proofs.YteegjnobmbcjiaaGreatDoor
end
section
/- Chapter 4: IsTautology, both sides. -/
namespace Go.Proofs.YteegjnobmbcjiaaGreatDoor
open Go.RowKit

theorem sameTs_symm {x y : Lt} (h : sameTs x y = true) : sameTs y x = true := by
  simp only [sameTs, Bool.or_eq_true, Bool.and_eq_true, decide_eq_true_iff] at *
  rcases h with ⟨a, b⟩ | ⟨a, b⟩
  · exact .inl ⟨a.symm, b.symm⟩
  · exact .inr ⟨b.symm, a.symm⟩
theorem take_mem {c : List Lt} {i j : Nat} (hij : i < j) (hj : j < c.length) : c.getD i lt0 ∈ c.take j := by
  have : (c.take j)[i]? = some (c.getD i lt0) := by rw [List.getElem?_take, if_pos hij, List.getElem?_eq_getElem (by omega)]; simp [List.getD, show i < c.length by omega]
  exact List.mem_of_getElem? this
theorem taut_pair {c : List Lt} {i j : Nat} (hi : i < c.length) (hj : j < c.length) (hp : (c.getD i lt0).1 ≠ (c.getD j lt0).1) (hs : sameTs (c.getD i lt0) (c.getD j lt0) = true) : tautC c = true := by
  rcases Nat.lt_trichotomy i j with h | h | h
  · refine taut_out hj ?_
    unfold tautAt
    rw [Bool.or_eq_true]
    refine .inr (List.any_eq_true.2 ⟨_, take_mem h hj, ?_⟩)
    rw [sameTs_symm hs, Bool.and_true]; exact bne_iff_ne.2 (Ne.symm hp)
  · subst h; exact absurd rfl hp
  · refine taut_out hi ?_
    unfold tautAt
    rw [Bool.or_eq_true]
    refine .inr (List.any_eq_true.2 ⟨_, take_mem h hi, ?_⟩)
    rw [hs, Bool.and_true]; exact bne_iff_ne.2 hp
theorem taut_keys {c : List Lt} (hk : ∀ x ∈ c, inKeyL x) : tautK (c.map keyL) = tautC c := by
  have hidx : ∀ x ∈ c, ∃ i, i < c.length ∧ c.getD i lt0 = x := fun x hx => by
    obtain ⟨i, hi, rfl⟩ := List.getElem_of_mem hx
    exact ⟨i, hi, by simp [List.getD, hi]⟩
  rw [Bool.eq_iff_iff]
  constructor
  · intro h
    obtain ⟨k, hkm, hc⟩ := List.any_eq_true.1 h
    obtain ⟨x, hx, rfl⟩ := List.mem_map.1 hkm
    rw [Bool.or_eq_true] at hc
    obtain ⟨i, hi, rfl⟩ := hidx x hx
    rcases hc with hc | hc
    · refine taut_out hi ?_
      unfold tautAt
      rw [Bool.or_eq_true]
      rw [keyL_triv (hk _ hx)] at hc
      exact .inl hc
    · obtain ⟨y', hym, hc⟩ := List.any_eq_true.1 hc
      obtain ⟨y, hy, rfl⟩ := List.mem_map.1 hym
      obtain ⟨j, hj, rfl⟩ := hidx y hy
      have hc := of_decide_eq_true hc
      have h1 : (!(c.getD i lt0).1) = (c.getD j lt0).1 := by have := congrArg Prod.fst hc; exact this
      have h2 : (keyL (c.getD i lt0)).2 = (keyL (c.getD j lt0)).2 := by have := congrArg Prod.snd hc; exact this
      have h3 := keyL_same (hk _ hx) (hk _ hy)
      rw [decide_eq_true h2] at h3
      exact taut_pair hi hj (by rw [← h1]; simp) h3.symm
  · intro h
    unfold tautC at h
    obtain ⟨i, hi, hc⟩ := List.any_eq_true.1 h
    have hi : i < c.length := by simpa using hi
    have hx := mem_getD c lt0 i hi
    unfold tautAt at hc
    rw [Bool.or_eq_true] at hc
    refine List.any_eq_true.2 ⟨keyL (c.getD i lt0), List.mem_map.2 ⟨_, hx, rfl⟩, ?_⟩
    rw [Bool.or_eq_true]
    rcases hc with hc | hc
    · exact .inl (by rw [keyL_triv (hk _ hx)]; exact hc)
    · obtain ⟨y, hy, hc⟩ := List.any_eq_true.1 hc
      have hy := List.mem_of_mem_take hy
      simp only [Bool.and_eq_true] at hc
      refine .inr (List.any_eq_true.2 ⟨keyL y, List.mem_map.2 ⟨_, hy, rfl⟩, decide_eq_true ?_⟩)
      have h3 := keyL_same (hk _ hx) (hk _ hy)
      rw [hc.2] at h3
      refine Prod.ext ?_ (of_decide_eq_true h3)
      show (!(c.getD i lt0).1) = y.1
      have := bne_iff_ne.1 hc.1
      revert this
      generalize (c.getD i lt0).1 = p
      generalize y.1 = q
      intro this
      cases p <;> cases q <;> simp_all
theorem goodSign_len10 {ar : List Int} (h : goodSign ar = true) : ar.length ≤ 10 := by
  simp [goodSign, inB] at h
  omega
theorem good_keys {ar : List Int} {c : List Lt} (h : goodClause ar c = true) : ∀ x ∈ c, inKeyL x ∧ x.2.1.length ≤ 40 ∧ x.2.2.length ≤ 40 := fun x hx => by
  obtain ⟨h1, _, h3⟩ := goodClause_iff.1 h
  have hl := goodSign_len10 h1
  have := okLit_iff.1 (h3 x hx)
  exact ⟨ok_inKeyL hl (h3 x hx), (okTerm_len this.1).2, (okTerm_len this.2).2⟩

end Go.Proofs.YteegjnobmbcjiaaGreatDoor
end
section
/- Chapter 4, the program: TidyClause. -/
namespace Go.Proofs.YteegjnobmbcjiaaGreatDoor
open Go.RowKit

theorem any_congr {α : Type} {l : List α} {f g : α → Bool} (h : ∀ y ∈ l, f y = g y) : l.any f = l.any g := by
  induction l with
  | nil => rfl
  | cons x r ih => rw [List.any_cons, List.any_cons, h x (by simp), ih fun y hy => h y (by simp [hy])]
theorem key_box {w w' : World} {p : Bool} {lo hi : ByteArray} {t : TypeId} (hb : Bel (w.alloc (.cells #[.bool p, .string lo, .string hi] t)) w') : w'.cell? ⟨w.heap.size, 0, none⟩ = some (.bool p) ∧ w'.cell? ⟨w.heap.size, 1, none⟩ = some (.string lo) ∧ w'.cell? ⟨w.heap.size, 2, none⟩ = some (.string hi) :=
  ⟨boxc hb 0 _ rfl, boxc hb 1 _ rfl, boxc hb 2 _ rfl⟩

set_option maxRecDepth 100000 in
set_option maxHeartbeats 2000000 in
theorem tidied_c (l h : Nat) (v : Value) (c : List Lt) (w : World) (hx : c.length ≤ 8) (hok : ∀ x ∈ c, inKeyL x ∧ x.2.1.length ≤ 40 ∧ x.2.2.length ≤ 40) (hv : SlC l h w v c) :
    Calls Tryz.prog 81 #[v] w (RetC w (tidyC c)) := by
  obtain ⟨i1, hi1, hy0, hy1, hy2⟩ := info_parts Tryz.info141
  obtain ⟨ad, cap, rfl⟩ := hv.form
  go_enter Tryz.func81, Tryz.ntmps81
  go_wp2_with fail
  go_loopw [3, 4, 10] (fun o s i wr => ∃ k : Nat, k ≤ c.length ∧ i = .int .i64 k ∧ RowCA w.heap.size wr o (tidyC (c.take k)) s.ownBlock ∧ RowK w.heap.size wr s ((tidyC (c.take k)).map keyL) ∧ Bel w wr) (fun _ _ i _ => c.length - (intOf i).toNat)
  case atStart => exact ⟨0, Nat.zero_le _, rfl, RowCA.nil _ _ _, RowK.nil _ _, Bel.rfl' _⟩
  case round =>
    obtain ⟨k, hk, rfl, hra, hrk, hb⟩ := hrel
    by_cases hlt : k < c.length
    · obtain ⟨b, off, u1, u2, rfl, hbs, e0, e1', e2', s1, s2⟩ := hv.at (Bel.rfl' w) k hlt
      have c1 := hb.at (World.block_lt_of_cell? _ ⟨_, _, none⟩ e0) e0
      have c2 := hb.at (World.block_lt_of_cell? _ ⟨_, _, none⟩ e1') e1'
      have c3 := hb.at (World.block_lt_of_cell? _ ⟨_, _, none⟩ e2') e2'
      have hin1 : (k : Int) < c.length := by omega
      obtain ⟨ok1, ok2, ok3⟩ := hok _ (mem_getD c lt0 k hlt)
      have HSTEP := tidyC_snoc c k hlt
      have hdl := tidy_len c k
      have hANY : (((tidyC (c.take k)).map keyL).any fun y => decide (keyL (c.getD k lt0) = y)) = (tidyC (c.take k)).any (eqvL (c.getD k lt0)) := by
        rw [List.any_map]
        refine any_congr fun y hy => ?_
        exact keyL_eq ok1 (hok y ((tidy_all' c k).2 y hy)).1
      have hTRIV := keyL_triv ok1
      obtain ⟨ks, hks⟩ : ∃ ks, (tidyC (c.take k)).map keyL = ks := ⟨_, rfl⟩
      rw [hks] at hrk hANY
      have hkl : ks.length ≤ 8 := by rw [← hks, List.length_map]; omega
      generalize tidyC (c.take k) = d at *
      generalize c.getD k lt0 = x at *
      obtain ⟨p, xl, xr⟩ := x
      simp only at c1 c2 c3 s1 s2 ok2 ok3 hTRIV
      obtain ⟨lo, hi, hKX⟩ : ∃ lo hi, keyL (p, xl, xr) = (p, lo, hi) := ⟨_, _, rfl⟩
      have hkey := fun (w' : World) (hq : Bel wr w') => keyOf_k l h (p, xl, xr) u1 u2 w' ok2 ok3 ok1 (s1.below (hb.step hq)) (s2.below (hb.step hq))
      rw [hKX] at hkey hANY hTRIV
      simp only at hkey hTRIV
      obtain ⟨a1, d1, rfl⟩ := s1.form
      obtain ⟨a2, d2, rfl⟩ := s2.form
      have HKEY := Lib.hid hkey
      have HS1 := Lib.hid s1
      have HS2 := Lib.hid s2
      have HKS : Hid (d.map keyL = ks) := hks
      have hbz := hb.size
      have HC := Lib.hid (fun (w' : World) (hq : Bel wr w') => containsK_c w.heap.size _ ks (p, lo, hi) w' (by omega) (ownsRow_bel hrk hq))
      have hstep2 : tidyC (c.take (k+1)) = if !p && decide (xl = xr) then d else if d.any (eqvL (p, xl, xr)) then d else d ++ [(p, xl, xr)] := HSTEP
      rw [← hANY] at hstep2
      rw [← hTRIV] at hstep2
      clear s1 s2 hkey e0 e1' e2' hv HSTEP hok ok1 hANY hTRIV hks
      cases p with
      | true =>
        simp only [Bool.not_true, Bool.false_and, Bool.false_eq_true, if_false] at hstep2
        generalize (ks.any fun y => decide ((true, lo, hi) = y)) = q at *
        cases q with
        | true =>
          have E : Hid (tidyC (c.take (k+1)) = d) := hstep2
          have hrk0 := hrk
          go_wp2_with fail
          refine (HKEY.out _ (Bel.alloc0 _ _)).mono ?_; rintro e w1 ⟨rfl, hb1⟩
          go_wp2_with fail
          refine (HC.out _ (hb1.of_alloc.step (Bel.alloc0 _ _))).mono ?_; rintro e w2 ⟨rfl, hb2⟩
          go_wp2_with fail
          go_roundw
          case rel =>
            have hB := (hb1.of_alloc.step (Bel.alloc0 w1 (.cells #[.bool true, .string lo, .string hi] 141))).step hb2
            exact ⟨k+1, by omega, by go_num, by rw [E.out]; exact hra.bel hB, by rw [E.out, HKS.out]; exact ownsRow_bel hrk hB, hb.step hB⟩
          case measure => simp [intOf]; omega
        | false =>
          have HKEEP : tidyC (c.take (k+1)) = d ++ [(true, xl, xr)] := hstep2
          go_wp2_with fail
          refine (HKEY.out _ (Bel.alloc0 _ _)).mono ?_; rintro e w1 ⟨rfl, hb1⟩
          go_wp2_with fail
          refine (HC.out _ (hb1.of_alloc.step (Bel.alloc0 _ _))).mono ?_; rintro e w2 ⟨rfl, hb2⟩
          have hzz : Bel (w1.alloc (.cells #[.bool true, .string lo, .string hi] 141)) w2 := hb2
          have HE : Hid (tidyC (c.take (k+1)) = d ++ [(true, xl, xr)]) := HKEEP
          have HEK : Hid ((tidyC (c.take (k+1))).map keyL = ks ++ [(true, lo, hi)]) := by show _ = _; rw [HE.out, List.map_append, HKS.out]; exact congrArg (fun q => ks ++ [q]) hKX
          have Hwz := (hb1.of_alloc.step (Bel.alloc0 w1 (.cells #[.bool true, .string lo, .string hi] 141))).step hzz
          have z0 := boxc hzz 0 _ rfl
          have z1 := boxc hzz 1 _ rfl
          have z2 := boxc hzz 2 _ rfl
          have hr1 : RowK w.heap.size (w2.alloc (.cells #[.bool true, .string lo, .string hi] 141)) _ ks := ownsRow_bel hrk (Hwz.step (Bel.alloc0 _ _))
          have hzs := Hwz.size
          have HRA1 := Lib.hid (hra.bel (Hwz.step (Bel.alloc0 w2 (.cells #[.bool true, .string lo, .string hi] 141))))
          have hbk := hra.blk
          have hsk := hrk.lt
          have hbA : Bel (wr.alloc (.cells #[.bool true, .slice a1 xl.length d1, .slice a2 xr.length d2] 53)) (w2.alloc (.cells #[.bool true, .string lo, .string hi] 141)) := (hb1.step (Bel.alloc0 w1 (.cells #[.bool true, .string lo, .string hi] 141))).step (hzz.alloc (.cells #[.bool true, .string lo, .string hi] 141))
          clear hra HC
          go_wp2_with (at_builtin; refine wpList_append_own_at _ rfl _ _ 139 rfl w.heap.size 141 i1 (.agg #[.bool false, .string ⟨#[]⟩, .string ⟨#[]⟩]) 3 40 Tryz.underlying139 hi1 hy0 hy1 hy2 rfl (by decide) _ _ _ rfl hr1 _ _ _ [.bool true, .string lo, .string hi] rfl rfl (news_key _ (true, lo, hi) _ _ rfl) (one_key (true, lo, hi)) (by unfold maxLen; omega) (by omega) (by simp; omega) ?_; intro v' w6 hown' hgrow _ hat)
          have HRA6 := Lib.hid (HRA1.out.seen hgrow hat)
          have HRK6 : Hid (RowK w.heap.size w6 v' (ks ++ [(true, lo, hi)])) := by
            show World.ownsRow _ _ _ _ _ _ _
            rw [cellsK_app, List.length_append]
            exact hown'
          have hal : ∀ g, v'.ownBlock = some g → g < w6.heap.size := fun g hg => (hown'.lt g hg).2
          have HAL := Lib.hid hal
          have hBw6 := ((hb.step Hwz).alloc (.cells #[.bool true, .string lo, .string hi] 141)).grown hgrow (fun q hq => (hsk q hq).1)
          have hbz6 := hBw6.size
          have hbr6 : wr.heap.size ≤ w6.heap.size := Nat.le_trans (Hwz.step (Bel.alloc0 _ (.cells #[.bool true, .string lo, .string hi] 141))).size hgrow.size
          have hne6 : some wr.heap.size ≠ _ := fun e => Nat.lt_irrefl _ (hsk _ e.symm).2
          have q0 := hgrow.cell (boxc hbA 0 _ rfl) hne6
          have q1 := hgrow.cell (boxc hbA 1 _ rfl) hne6
          have q2 := hgrow.cell (boxc hbA 2 _ rfl) hne6
          have HL := Lib.hid (fun (w' : World) (hq : Bel w6 w') => clone_c _ _ _ xl w' (by omega) (HS1.out.below (hBw6.step hq)))
          have HR := Lib.hid (fun (w' : World) (hq : Bel w6 w') => clone_c _ _ _ xr w' (by omega) (HS2.out.below (hBw6.step hq)))
          obtain ⟨xl', hxl'⟩ : ∃ y, y = xl := ⟨_, rfl⟩
          obtain ⟨xr', hxr'⟩ : ∃ y, y = xr := ⟨_, rfl⟩
          have HL : Hid (∀ w', Bel w6 w' → Calls Tryz.prog 122 #[.slice a1 xl.length d1] w' (RetI w' xl')) := by rw [hxl']; exact HL
          have HR : Hid (∀ w', Bel w6 w' → Calls Tryz.prog 122 #[.slice a2 xr.length d2] w' (RetI w' xr')) := by rw [hxr']; exact HR
          rw [← hxl', ← hxr'] at HE
          have HB7 : Bel w6 w6.drew := Bel.drew0 _
          have HZ7 : w6.heap.size ≤ w6.drew.heap.size := HB7.size
          have k1 := HB7.at (World.block_lt_of_cell? _ ⟨_, _, none⟩ q0) q0
          have k2 := HB7.at (World.block_lt_of_cell? _ ⟨_, _, none⟩ q1) q1
          have k3 := HB7.at (World.block_lt_of_cell? _ ⟨_, _, none⟩ q2) q2
          clear hxl' hxr' hown' hal hr1 hrk q0 q1 q2 hbA HRA1 hgrow hat z0 z1 z2
          go_wp2_with fail
          go_region_held_law (fun w' => w'.cell? ⟨wr.heap.size, 0, none⟩ = some (.bool true) ∧ w'.cell? ⟨wr.heap.size, 1, none⟩ = some (.slice a1 xl.length d1) ∧ w'.cell? ⟨wr.heap.size, 2, none⟩ = some (.slice a2 xr.length d2))
            (first | exact ⟨t1, t2, t3⟩ | exact ⟨m1, m2, m3⟩ | exact ⟨k14, k24, k34⟩ | exact ⟨k13, k23, k33⟩ | exact ⟨k1, k2, k3⟩ | fail)
            (first
              | (refine step_append_litO rfl (.tmp 32) (.tmp 42) 43 rfl rfl w.heap.size _ zs rfl hown w9.heap.size true (a3, n3, q3) (a4, n4, q4) rfl HN (by omega) HZ9 ?_; intro b5 k5 w10 R5 hg5 hat5; have HR5 := hnext w10 _ R5 hg5 hat5; have HK10 := (ownsRow_bel HRK6.out (HB9.step HA9)).kept hg5 HRA6.out.ne; have t1 := hg5.cell m1 (fun e => Nat.lt_irrefl _ (hbk _ e.symm).2); have t2 := hg5.cell m2 (fun e => Nat.lt_irrefl _ (hbk _ e.symm).2); have t3 := hg5.cell m3 (fun e => Nat.lt_irrefl _ (hbk _ e.symm).2); have HB10 := (hBw6.step (HB9.step HA9)).grown hg5 (fun q hq => (hbk q hq).1))
              | (go_at_call 122; refine (HR.out _ HB8).mono ?_; rintro e w9 ⟨a4, n4, q4, rfl, r2, g9⟩; obtain ⟨LA, HA, LB, HB, O1, O2, RA, RB, QA, QB, HD⟩ : ∃ la ha lb hb, OwnI la ha w9 (.slice a3 n3 q3) xl' ∧ OwnI lb hb w9 (.slice a4 n4 q4) xr' ∧ w6.heap.size ≤ la ∧ w6.heap.size ≤ lb ∧ ha ≤ w9.heap.size ∧ hb ≤ w9.heap.size ∧ (ha ≤ lb ∨ hb ≤ la) := ⟨_, _, _, _, r1.below g9, r2, HZ7, HZ8, g9.size, Nat.le_refl _, .inl (Nat.le_refl _)⟩; have HB9 := HB8.step g9; have HA9 := Bel.alloc0 w9 (.cells #[.bool true, .slice a3 n3 q3, .slice a4 n4 q4] 53); obtain ⟨zs, hown, hzl, hnext⟩ := HRA6.out.step HAL.out HB9 HA9 O1 O2 RA RB QA QB HD hbz6 true; have HZ9 : w.heap.size ≤ (w9.alloc (.cells #[.bool true, .slice a3 n3 q3, .slice a4 n4 q4] 53)).heap.size := Nat.le_trans hbz6 (HB9.step HA9).size; have HN := news_lit w9 (.bool true) (encS (a3, n3, q3)) (encS (a4, n4, q4)) 53 w9.heap.size rfl; have k14 := g9.at (World.block_lt_of_cell? _ ⟨_, _, none⟩ k13) k13; have k24 := g9.at (World.block_lt_of_cell? _ ⟨_, _, none⟩ k23) k23; have k34 := g9.at (World.block_lt_of_cell? _ ⟨_, _, none⟩ k33) k33; have m1 := HA9.at (World.block_lt_of_cell? _ ⟨_, _, none⟩ k14) k14; have m2 := HA9.at (World.block_lt_of_cell? _ ⟨_, _, none⟩ k24) k24; have m3 := HA9.at (World.block_lt_of_cell? _ ⟨_, _, none⟩ k34) k34)
              | (go_at_call 122; refine (HL.out _ HB8).mono ?_; rintro e w9 ⟨a3, n3, q3, rfl, r1, g9⟩; obtain ⟨LA, HA, LB, HB, O1, O2, RA, RB, QA, QB, HD⟩ : ∃ la ha lb hb, OwnI la ha w9 (.slice a3 n3 q3) xl' ∧ OwnI lb hb w9 (.slice a4 n4 q4) xr' ∧ w6.heap.size ≤ la ∧ w6.heap.size ≤ lb ∧ ha ≤ w9.heap.size ∧ hb ≤ w9.heap.size ∧ (ha ≤ lb ∨ hb ≤ la) := ⟨_, _, _, _, r1, r2.below g9, HZ8, HZ7, Nat.le_refl _, g9.size, .inr (Nat.le_refl _)⟩; have HB9 := HB8.step g9; have HA9 := Bel.alloc0 w9 (.cells #[.bool true, .slice a3 n3 q3, .slice a4 n4 q4] 53); obtain ⟨zs, hown, hzl, hnext⟩ := HRA6.out.step HAL.out HB9 HA9 O1 O2 RA RB QA QB HD hbz6 true; have HZ9 : w.heap.size ≤ (w9.alloc (.cells #[.bool true, .slice a3 n3 q3, .slice a4 n4 q4] 53)).heap.size := Nat.le_trans hbz6 (HB9.step HA9).size; have HN := news_lit w9 (.bool true) (encS (a3, n3, q3)) (encS (a4, n4, q4)) 53 w9.heap.size rfl; have k14 := g9.at (World.block_lt_of_cell? _ ⟨_, _, none⟩ k13) k13; have k24 := g9.at (World.block_lt_of_cell? _ ⟨_, _, none⟩ k23) k23; have k34 := g9.at (World.block_lt_of_cell? _ ⟨_, _, none⟩ k33) k33; have m1 := HA9.at (World.block_lt_of_cell? _ ⟨_, _, none⟩ k14) k14; have m2 := HA9.at (World.block_lt_of_cell? _ ⟨_, _, none⟩ k24) k24; have m3 := HA9.at (World.block_lt_of_cell? _ ⟨_, _, none⟩ k34) k34)
              | (go_at_call 122; refine (HL.out _ HB7).mono ?_; rintro e w8 ⟨a3, n3, q3, rfl, r1, g8⟩; have HB8 := HB7.step g8; have HZ8 := Nat.le_trans HZ7 g8.size; have k13 := g8.at (World.block_lt_of_cell? _ ⟨_, _, none⟩ k1) k1; have k23 := g8.at (World.block_lt_of_cell? _ ⟨_, _, none⟩ k2) k2; have k33 := g8.at (World.block_lt_of_cell? _ ⟨_, _, none⟩ k3) k3)
              | (go_at_call 122; refine (HR.out _ HB7).mono ?_; rintro e w8 ⟨a4, n4, q4, rfl, r2, g8⟩; have HB8 := HB7.step g8; have HZ8 := Nat.le_trans HZ7 g8.size; have k13 := g8.at (World.block_lt_of_cell? _ ⟨_, _, none⟩ k1) k1; have k23 := g8.at (World.block_lt_of_cell? _ ⟨_, _, none⟩ k2) k2; have k33 := g8.at (World.block_lt_of_cell? _ ⟨_, _, none⟩ k3) k3)
              | fail)
          all_goals
            have hzd : zs.length = d.length := hzl
            go_wp2_with fail
            go_roundw
            case rel =>
              refine ⟨k+1, by omega, by go_num, ?_, ?_, HB10⟩
              · rw [HE.out]; first | exact HR5 | (rw [hzd] at HR5; exact HR5)
              · rw [HEK.out]; exact HK10
            case measure => simp [intOf]; omega
      | false =>
        simp only [Bool.not_false, Bool.true_and] at hstep2
        have HSA := Lib.hid (fun (w' : World) => isSame_c false lo hi w')
        generalize decide (lo = hi) = r at *
        cases r with
        | true =>
          have E : Hid (tidyC (c.take (k+1)) = d) := hstep2
          go_wp2_with fail
          refine (HKEY.out _ (Bel.alloc0 _ _)).mono ?_; rintro e w1 ⟨rfl, hb1⟩
          go_wp2_with fail
          refine (HSA.out _).mono ?_; rintro e w2 ⟨rfl, hb2⟩
          go_wp2_with fail
          go_roundw
          case rel =>
            have hB := (hb1.of_alloc.step (Bel.alloc0 w1 (.cells #[.bool false, .string lo, .string hi] 141))).step hb2
            exact ⟨k+1, by omega, by go_num, by rw [E.out]; exact hra.bel hB, by rw [E.out, HKS.out]; exact ownsRow_bel hrk hB, hb.step hB⟩
          case measure => simp [intOf]; omega
        | false =>
          simp only [Bool.false_eq_true, if_false] at hstep2
          generalize (ks.any fun y => decide ((false, lo, hi) = y)) = q at *
          cases q with
          | true =>
            have E : Hid (tidyC (c.take (k+1)) = d) := hstep2
            go_wp2_with fail
            refine (HKEY.out _ (Bel.alloc0 _ _)).mono ?_; rintro e w1 ⟨rfl, hb1⟩
            go_wp2_with fail
            refine (HSA.out _).mono ?_; rintro e w2 ⟨rfl, hb2⟩
            obtain ⟨z0, z1, z2⟩ := key_box hb2
            go_wp2_with fail
            refine (HC.out _ ((hb1.of_alloc.step (Bel.alloc0 _ _)).step hb2)).mono ?_; rintro e w3 ⟨rfl, hb3⟩
            go_wp2_with fail
            go_roundw
            case rel =>
              have hB := ((hb1.of_alloc.step (Bel.alloc0 w1 (.cells #[.bool false, .string lo, .string hi] 141))).step hb2).step hb3
              exact ⟨k+1, by omega, by go_num, by rw [E.out]; exact hra.bel hB, by rw [E.out, HKS.out]; exact ownsRow_bel hrk hB, hb.step hB⟩
            case measure => simp [intOf]; omega
          | false =>
            have HKEEP : tidyC (c.take (k+1)) = d ++ [(false, xl, xr)] := hstep2
            go_wp2_with fail
            refine (HKEY.out _ (Bel.alloc0 _ _)).mono ?_; rintro e w1 ⟨rfl, hb1⟩
            go_wp2_with fail
            refine (HSA.out _).mono ?_; rintro e w2 ⟨rfl, hb2⟩
            obtain ⟨z0, z1, z2⟩ := key_box hb2
            go_wp2_with fail
            refine (HC.out _ ((hb1.of_alloc.step (Bel.alloc0 _ _)).step hb2)).mono ?_; rintro e w3 ⟨rfl, hb3⟩
            clear z0 z1 z2
            have hzz : Bel (w1.alloc (.cells #[.bool false, .string lo, .string hi] 141)) w3 := hb2.step hb3
            have HE : Hid (tidyC (c.take (k+1)) = d ++ [(false, xl, xr)]) := HKEEP
            have HEK : Hid ((tidyC (c.take (k+1))).map keyL = ks ++ [(false, lo, hi)]) := by show _ = _; rw [HE.out, List.map_append, HKS.out]; exact congrArg (fun q => ks ++ [q]) hKX
            have Hwz := (hb1.of_alloc.step (Bel.alloc0 w1 (.cells #[.bool false, .string lo, .string hi] 141))).step hzz
            have z0 := boxc hzz 0 _ rfl
            have z1 := boxc hzz 1 _ rfl
            have z2 := boxc hzz 2 _ rfl
            have hr1 : RowK w.heap.size (w3.alloc (.cells #[.bool false, .string lo, .string hi] 141)) _ ks := ownsRow_bel hrk (Hwz.step (Bel.alloc0 _ _))
            have hzs := Hwz.size
            have HRA1 := Lib.hid (hra.bel (Hwz.step (Bel.alloc0 w3 (.cells #[.bool false, .string lo, .string hi] 141))))
            have hbk := hra.blk
            have hsk := hrk.lt
            have hbA : Bel (wr.alloc (.cells #[.bool false, .slice a1 xl.length d1, .slice a2 xr.length d2] 53)) (w3.alloc (.cells #[.bool false, .string lo, .string hi] 141)) := (hb1.step (Bel.alloc0 w1 (.cells #[.bool false, .string lo, .string hi] 141))).step (hzz.alloc (.cells #[.bool false, .string lo, .string hi] 141))
            clear hra HC
            go_wp2_with (at_builtin; refine wpList_append_own_at _ rfl _ _ 139 rfl w.heap.size 141 i1 (.agg #[.bool false, .string ⟨#[]⟩, .string ⟨#[]⟩]) 3 40 Tryz.underlying139 hi1 hy0 hy1 hy2 rfl (by decide) _ _ _ rfl hr1 _ _ _ [.bool false, .string lo, .string hi] rfl rfl (news_key _ (false, lo, hi) _ _ rfl) (one_key (false, lo, hi)) (by unfold maxLen; omega) (by omega) (by simp; omega) ?_; intro v' w6 hown' hgrow _ hat)
            have HRA6 := Lib.hid (HRA1.out.seen hgrow hat)
            have HRK6 : Hid (RowK w.heap.size w6 v' (ks ++ [(false, lo, hi)])) := by
              show World.ownsRow _ _ _ _ _ _ _
              rw [cellsK_app, List.length_append]
              exact hown'
            have hal : ∀ g, v'.ownBlock = some g → g < w6.heap.size := fun g hg => (hown'.lt g hg).2
            have HAL := Lib.hid hal
            have hBw6 := ((hb.step Hwz).alloc (.cells #[.bool false, .string lo, .string hi] 141)).grown hgrow (fun q hq => (hsk q hq).1)
            have hbz6 := hBw6.size
            have hbr6 : wr.heap.size ≤ w6.heap.size := Nat.le_trans (Hwz.step (Bel.alloc0 _ (.cells #[.bool false, .string lo, .string hi] 141))).size hgrow.size
            have hne6 : some wr.heap.size ≠ _ := fun e => Nat.lt_irrefl _ (hsk _ e.symm).2
            have q0 := hgrow.cell (boxc hbA 0 _ rfl) hne6
            have q1 := hgrow.cell (boxc hbA 1 _ rfl) hne6
            have q2 := hgrow.cell (boxc hbA 2 _ rfl) hne6
            have HL := Lib.hid (fun (w' : World) (hq : Bel w6 w') => clone_c _ _ _ xl w' (by omega) (HS1.out.below (hBw6.step hq)))
            have HR := Lib.hid (fun (w' : World) (hq : Bel w6 w') => clone_c _ _ _ xr w' (by omega) (HS2.out.below (hBw6.step hq)))
            obtain ⟨xl', hxl'⟩ : ∃ y, y = xl := ⟨_, rfl⟩
            obtain ⟨xr', hxr'⟩ : ∃ y, y = xr := ⟨_, rfl⟩
            have HL : Hid (∀ w', Bel w6 w' → Calls Tryz.prog 122 #[.slice a1 xl.length d1] w' (RetI w' xl')) := by rw [hxl']; exact HL
            have HR : Hid (∀ w', Bel w6 w' → Calls Tryz.prog 122 #[.slice a2 xr.length d2] w' (RetI w' xr')) := by rw [hxr']; exact HR
            rw [← hxl', ← hxr'] at HE
            have HB7 : Bel w6 w6.drew := Bel.drew0 _
            have HZ7 : w6.heap.size ≤ w6.drew.heap.size := HB7.size
            have k1 := HB7.at (World.block_lt_of_cell? _ ⟨_, _, none⟩ q0) q0
            have k2 := HB7.at (World.block_lt_of_cell? _ ⟨_, _, none⟩ q1) q1
            have k3 := HB7.at (World.block_lt_of_cell? _ ⟨_, _, none⟩ q2) q2
            clear hxl' hxr' hown' hal hr1 hrk q0 q1 q2 hbA HRA1 hgrow hat z0 z1 z2
            go_wp2_with fail
            go_region_held_law (fun w' => w'.cell? ⟨wr.heap.size, 0, none⟩ = some (.bool false) ∧ w'.cell? ⟨wr.heap.size, 1, none⟩ = some (.slice a1 xl.length d1) ∧ w'.cell? ⟨wr.heap.size, 2, none⟩ = some (.slice a2 xr.length d2))
              (first | exact ⟨t1, t2, t3⟩ | exact ⟨m1, m2, m3⟩ | exact ⟨k14, k24, k34⟩ | exact ⟨k13, k23, k33⟩ | exact ⟨k1, k2, k3⟩ | fail)
              (first
                | (refine step_append_litO rfl (.tmp 32) (.tmp 42) 43 rfl rfl w.heap.size _ zs rfl hown w9.heap.size false (a3, n3, q3) (a4, n4, q4) rfl HN (by omega) HZ9 ?_; intro b5 k5 w10 R5 hg5 hat5; have HR5 := hnext w10 _ R5 hg5 hat5; have HK10 := (ownsRow_bel HRK6.out (HB9.step HA9)).kept hg5 HRA6.out.ne; have t1 := hg5.cell m1 (fun e => Nat.lt_irrefl _ (hbk _ e.symm).2); have t2 := hg5.cell m2 (fun e => Nat.lt_irrefl _ (hbk _ e.symm).2); have t3 := hg5.cell m3 (fun e => Nat.lt_irrefl _ (hbk _ e.symm).2); have HB10 := (hBw6.step (HB9.step HA9)).grown hg5 (fun q hq => (hbk q hq).1))
                | (go_at_call 122; refine (HR.out _ HB8).mono ?_; rintro e w9 ⟨a4, n4, q4, rfl, r2, g9⟩; obtain ⟨LA, HA, LB, HB, O1, O2, RA, RB, QA, QB, HD⟩ : ∃ la ha lb hb, OwnI la ha w9 (.slice a3 n3 q3) xl' ∧ OwnI lb hb w9 (.slice a4 n4 q4) xr' ∧ w6.heap.size ≤ la ∧ w6.heap.size ≤ lb ∧ ha ≤ w9.heap.size ∧ hb ≤ w9.heap.size ∧ (ha ≤ lb ∨ hb ≤ la) := ⟨_, _, _, _, r1.below g9, r2, HZ7, HZ8, g9.size, Nat.le_refl _, .inl (Nat.le_refl _)⟩; have HB9 := HB8.step g9; have HA9 := Bel.alloc0 w9 (.cells #[.bool false, .slice a3 n3 q3, .slice a4 n4 q4] 53); obtain ⟨zs, hown, hzl, hnext⟩ := HRA6.out.step HAL.out HB9 HA9 O1 O2 RA RB QA QB HD hbz6 false; have HZ9 : w.heap.size ≤ (w9.alloc (.cells #[.bool false, .slice a3 n3 q3, .slice a4 n4 q4] 53)).heap.size := Nat.le_trans hbz6 (HB9.step HA9).size; have HN := news_lit w9 (.bool false) (encS (a3, n3, q3)) (encS (a4, n4, q4)) 53 w9.heap.size rfl; have k14 := g9.at (World.block_lt_of_cell? _ ⟨_, _, none⟩ k13) k13; have k24 := g9.at (World.block_lt_of_cell? _ ⟨_, _, none⟩ k23) k23; have k34 := g9.at (World.block_lt_of_cell? _ ⟨_, _, none⟩ k33) k33; have m1 := HA9.at (World.block_lt_of_cell? _ ⟨_, _, none⟩ k14) k14; have m2 := HA9.at (World.block_lt_of_cell? _ ⟨_, _, none⟩ k24) k24; have m3 := HA9.at (World.block_lt_of_cell? _ ⟨_, _, none⟩ k34) k34)
                | (go_at_call 122; refine (HL.out _ HB8).mono ?_; rintro e w9 ⟨a3, n3, q3, rfl, r1, g9⟩; obtain ⟨LA, HA, LB, HB, O1, O2, RA, RB, QA, QB, HD⟩ : ∃ la ha lb hb, OwnI la ha w9 (.slice a3 n3 q3) xl' ∧ OwnI lb hb w9 (.slice a4 n4 q4) xr' ∧ w6.heap.size ≤ la ∧ w6.heap.size ≤ lb ∧ ha ≤ w9.heap.size ∧ hb ≤ w9.heap.size ∧ (ha ≤ lb ∨ hb ≤ la) := ⟨_, _, _, _, r1, r2.below g9, HZ8, HZ7, Nat.le_refl _, g9.size, .inr (Nat.le_refl _)⟩; have HB9 := HB8.step g9; have HA9 := Bel.alloc0 w9 (.cells #[.bool false, .slice a3 n3 q3, .slice a4 n4 q4] 53); obtain ⟨zs, hown, hzl, hnext⟩ := HRA6.out.step HAL.out HB9 HA9 O1 O2 RA RB QA QB HD hbz6 false; have HZ9 : w.heap.size ≤ (w9.alloc (.cells #[.bool false, .slice a3 n3 q3, .slice a4 n4 q4] 53)).heap.size := Nat.le_trans hbz6 (HB9.step HA9).size; have HN := news_lit w9 (.bool false) (encS (a3, n3, q3)) (encS (a4, n4, q4)) 53 w9.heap.size rfl; have k14 := g9.at (World.block_lt_of_cell? _ ⟨_, _, none⟩ k13) k13; have k24 := g9.at (World.block_lt_of_cell? _ ⟨_, _, none⟩ k23) k23; have k34 := g9.at (World.block_lt_of_cell? _ ⟨_, _, none⟩ k33) k33; have m1 := HA9.at (World.block_lt_of_cell? _ ⟨_, _, none⟩ k14) k14; have m2 := HA9.at (World.block_lt_of_cell? _ ⟨_, _, none⟩ k24) k24; have m3 := HA9.at (World.block_lt_of_cell? _ ⟨_, _, none⟩ k34) k34)
                | (go_at_call 122; refine (HL.out _ HB7).mono ?_; rintro e w8 ⟨a3, n3, q3, rfl, r1, g8⟩; have HB8 := HB7.step g8; have HZ8 := Nat.le_trans HZ7 g8.size; have k13 := g8.at (World.block_lt_of_cell? _ ⟨_, _, none⟩ k1) k1; have k23 := g8.at (World.block_lt_of_cell? _ ⟨_, _, none⟩ k2) k2; have k33 := g8.at (World.block_lt_of_cell? _ ⟨_, _, none⟩ k3) k3)
                | (go_at_call 122; refine (HR.out _ HB7).mono ?_; rintro e w8 ⟨a4, n4, q4, rfl, r2, g8⟩; have HB8 := HB7.step g8; have HZ8 := Nat.le_trans HZ7 g8.size; have k13 := g8.at (World.block_lt_of_cell? _ ⟨_, _, none⟩ k1) k1; have k23 := g8.at (World.block_lt_of_cell? _ ⟨_, _, none⟩ k2) k2; have k33 := g8.at (World.block_lt_of_cell? _ ⟨_, _, none⟩ k3) k3)
                | fail)
            all_goals
              have hzd : zs.length = d.length := hzl
              go_wp2_with fail
              go_roundw
              case rel =>
                refine ⟨k+1, by omega, by go_num, ?_, ?_, HB10⟩
                · rw [HE.out]; first | exact HR5 | (rw [hzd] at HR5; exact HR5)
                · rw [HEK.out]; exact HK10
              case measure => simp [intOf]; omega
    · have ek : c.take k = c := List.take_of_length_le (by omega)
      rw [ek] at hra
      obtain ⟨ao, co, rfl⟩ := hra.co.form
      have HO := Lib.hid hra.co.own
      generalize tidyC c = r at *
      clear hra hrk hv ek
      go_wp2_with fail
      go_ret
      exact ⟨_, _, _, rfl, HO.out, hb⟩
end Go.Proofs.YteegjnobmbcjiaaGreatDoor
end
section
/- Chapter 4: TidyClause, both sides. -/
namespace Go.Proofs.YteegjnobmbcjiaaGreatDoor
open Go.RowKit

theorem good_sum {ar : List Int} {c : List Lt} (h8 : c.length ≤ 8) (h : ∀ x ∈ c, okLit ar x = true) : sumC c ≤ 1048576 := by
  rw [sumC_eq]
  unfold lenC
  have := sumL_le40 (flatC c) (fun t ht => (okTerm_len (flat_ok h ht)).2)
  rw [flatC_len] at this
  omega
theorem tidyAns_len (ar : List Int) (c : List Lt) : sumC (tidyAns ar c) ≤ 1048576 := by
  unfold tidyAns
  split
  · rename_i hg
    obtain ⟨_, h8, hok⟩ := goodClause_iff.1 hg
    have h1 := tidy_all' c c.length
    rw [List.take_length] at h1
    exact good_sum (ar := ar) (by omega) fun x hx => hok x (h1.2 x hx)
  · simp [sumC]
end Go.Proofs.YteegjnobmbcjiaaGreatDoor
end
section
/- Chapter 4: the lists that stand for literals, both sides. -/
namespace Go.Proofs.YteegjnobmbcjiaaGreatDoor
open Go.RowKit

theorem lit_row {base e size : Nat} (w : World) (cs : Array Value) (n g : Nat) (hg : g = w.heap.size) (hb : base ≤ w.heap.size) (hm : n ≤ maxLen) (hs : cs.size = n * size) : (w.alloc (.cells cs e)).ownsRow base e size (.slice (some ⟨g, 0, none⟩) n n) n cs.toList := by subst hg; exact World.ownsRow_lit w cs n hb hm hs
theorem els_two {W : World} {z1 z2 : SV} {a b : List Int} (h1 : SlI 0 W.heap.size W (encS z1) a) (h2 : SlI 0 W.heap.size W (encS z2) b) : Els W [z1, z2] [a, b] := (((Els.nil W).snoc h1).snoc h2)
theorem els_four {W : World} {z1 z2 : SV} {a b : List Int} (h1 : SlI 0 W.heap.size W (encS z1) a) (h2 : SlI 0 W.heap.size W (encS z2) b) : Els W [z1, z2, z1, z2] [a, b, a, b] := (((((Els.nil W).snoc h1).snoc h2).snoc h1).snoc h2)
theorem listL_low {ar : List Int} {x : Lt} (h : okLit ar x = true) : ∀ t ∈ listL x, okTerm ar t = true := by
  obtain ⟨h1, h2⟩ := okLit_iff.1 h
  intro t ht
  unfold listL at ht
  split at ht <;> simp at ht
  · rcases ht with rfl | rfl <;> assumption
  · rcases ht with rfl | rfl | rfl | rfl <;> assumption
theorem listL_len (x : Lt) : (listL x).length ≤ 4 := by unfold listL; split <;> simp

set_option maxRecDepth 100000 in
set_option maxHeartbeats 1000000 in
theorem countedTerms_c (l h : Nat) (x : Lt) (u1 u2 : Value) (w : World) (h1 : SlI l h w u1 x.2.1) (h2 : SlI l h w u2 x.2.2) :
    Calls Tryz.prog 85 #[.agg #[.bool x.1, u1, u2]] w (RetRow w (listL x)) := by
  obtain ⟨p, xl, xr⟩ := x
  simp only at *
  obtain ⟨a1, d1, rfl⟩ := h1.form
  obtain ⟨a2, d2, rfl⟩ := h2.form
  have s1 := Lib.hid h1.in'
  have s2 := Lib.hid h2.in'
  clear h1 h2
  cases p with
  | true =>
    show Calls _ _ _ _ (RetRow w [xl, xr])
    go_enter Tryz.func85, Tryz.ntmps85
    go_wp2_with fail
    go_ret
    exact ⟨_, _, _, rfl, ⟨[(a1, xl.length, d1), (a2, xr.length, d2)], lit_row _ #[.slice a1 xl.length d1, .slice a2 xr.length d2] 2 _ (by simp) (by simp) (by unfold maxLen; omega) rfl, els_two s1.out s2.out⟩, Bel.alloc2 _ _ _⟩
  | false =>
    show Calls _ _ _ _ (RetRow w [xl, xr, xl, xr])
    go_enter Tryz.func85, Tryz.ntmps85
    go_wp2_with fail
    go_ret
    exact ⟨_, _, _, rfl, ⟨[(a1, xl.length, d1), (a2, xr.length, d2), (a1, xl.length, d1), (a2, xr.length, d2)], lit_row _ #[.slice a1 xl.length d1, .slice a2 xr.length d2, .slice a1 xl.length d1, .slice a2 xr.length d2] 4 _ (by simp) (by simp) (by unfold maxLen; omega) rfl, els_four s1.out s2.out⟩, Bel.alloc2 _ _ _⟩

set_option maxRecDepth 100000 in
set_option maxHeartbeats 1000000 in
theorem l4List_c (l h : Nat) (x : Lt) (u1 u2 : Value) (w : World) (h1 : SlI l h w u1 x.2.1) (h2 : SlI l h w u2 x.2.2) :
    Calls Tryz.prog 54 #[.agg #[.bool x.1, u1, u2]] w (RetRow w (listL x)) := by
  obtain ⟨p, xl, xr⟩ := x
  simp only at *
  obtain ⟨a1, d1, rfl⟩ := h1.form
  obtain ⟨a2, d2, rfl⟩ := h2.form
  have s1 := Lib.hid h1.in'
  have s2 := Lib.hid h2.in'
  clear h1 h2
  cases p with
  | true =>
    show Calls _ _ _ _ (RetRow w [xl, xr])
    go_enter Tryz.func54, Tryz.ntmps54
    go_wp2_with fail
    go_ret
    exact ⟨_, _, _, rfl, ⟨[(a1, xl.length, d1), (a2, xr.length, d2)], lit_row _ #[.slice a1 xl.length d1, .slice a2 xr.length d2] 2 _ (by simp) (by simp) (by unfold maxLen; omega) rfl, els_two s1.out s2.out⟩, Bel.alloc2 _ _ _⟩
  | false =>
    show Calls _ _ _ _ (RetRow w [xl, xr, xl, xr])
    go_enter Tryz.func54, Tryz.ntmps54
    go_wp2_with fail
    go_ret
    exact ⟨_, _, _, rfl, ⟨[(a1, xl.length, d1), (a2, xr.length, d2), (a1, xl.length, d1), (a2, xr.length, d2)], lit_row _ #[.slice a1 xl.length d1, .slice a2 xr.length d2, .slice a1 xl.length d1, .slice a2 xr.length d2] 4 _ (by simp) (by simp) (by unfold maxLen; omega) rfl, els_four s1.out s2.out⟩, Bel.alloc2 _ _ _⟩
end Go.Proofs.YteegjnobmbcjiaaGreatDoor
end
section
/- The ordering of two terms: the program's and the reference's inner functions. -/
namespace Go.Proofs.YteegjnobmbcjiaaGreatDoor
open Go.RowKit

/-- The table of weights: both are one. -/
def Tab (w : World) : Prop := w.cell? ⟨0, 0, none⟩ = some (.int .i64 1) ∧ w.cell? ⟨0, 1, none⟩ = some (.int .i64 1)
theorem Tab.bel {w w' : World} (h : Tab w) (hb : Bel w w') : Tab w' := ⟨hb.at (World.block_lt_of_cell? _ ⟨_, _, none⟩ h.1) h.1, hb.at (World.block_lt_of_cell? _ ⟨_, _, none⟩ h.2) h.2⟩
theorem Tab.k {w : World} (h : Tab w) : K Tab w := fun _ hb => h.bel hb

theorem weightOf_c (l h : Nat) (v : Value) (t : List Int) (w : World) (hT : Tab w) (ht : t.length ≤ 1048576) (hv : SlI l h w v t) :
    Calls Tryz.prog 158 #[v] w (RetV w (.int .i64 (t.length : Int))) := by
  obtain ⟨ad, cap, rfl, -, -, hr⟩ := hv
  obtain ⟨hT0, hT1⟩ := hT
  go_enter Tryz.func158, Tryz.ntmps158
  go_wp2_with fail
  go_loop [3, 8] (fun m i => ∃ k : Nat, k ≤ t.length ∧ i = .int .i64 k ∧ m = .int .i64 k) (fun _ i => t.length - (intOf i).toNat)
  case atStart => exact ⟨0, Nat.zero_le _, rfl, rfl⟩
  case round =>
    obtain ⟨k, hk, rfl, rfl⟩ := hrel
    by_cases hlt : k < t.length
    · obtain ⟨b, off, rfl, -, hcell⟩ := rd hr (Bel.rfl' w) k hlt
      clear hr
      generalize t.getD k 0 = x at *
      by_cases hx : x < 0
      · have hx' : decide (x < 0) = true := by simpa using hx
        go_wp2_with fail
        go_round
        case rel => exact ⟨k+1, by omega, by go_num, by go_num⟩
        case measure => simp [intOf]; omega
      · have hx' : decide (x < 0) = false := by simpa using hx
        go_wp2_with fail
        go_round
        case rel => exact ⟨k+1, by omega, by go_num, by go_num⟩
        case measure => simp [intOf]; omega
    · obtain rfl : k = t.length := by omega
      go_wp2_with fail
      go_ret
      exact ⟨rfl, Bel.rfl' _⟩

/-- All variables have numbers up to eleven. -/
def lowT (t : List Int) : Prop := ∀ k, k < t.length → -12 ≤ t.getD k 0
theorem lowT.mem {t : List Int} (h : lowT t) {n : Int} (hn : n ∈ t) : -12 ≤ n := by
  obtain ⟨i, hi, e⟩ := List.getElem_of_mem hn
  have := h i hi
  simpa [List.getD, hi, e] using this
theorem cntf_neg {t : List Int} {k : Nat} (hk : k < t.length) (hx : t.getD k 0 < 0) :
    (fun i : Nat => if i = (-1 - t.getD k 0).toNat then (cntI (t.take k) (t.getD k 0) : Int) + 1 else (cntI (t.take k) (-1 - (i : Int)) : Int)) = fun i : Nat => (cntI (t.take (k+1)) (-1 - (i : Int)) : Int) := by
  funext i
  by_cases e : i = (-1 - t.getD k 0).toNat
  · have e2 : -1 - (i : Int) = t.getD k 0 := by omega
    rw [if_pos e, e2, cntI_yes t _ k hk rfl]; omega
  · have e2 : t.getD k 0 ≠ -1 - (i : Int) := by omega
    rw [if_neg e, cntI_no t _ k hk e2]
theorem cntf_sym {t : List Int} {k : Nat} (hk : k < t.length) (hx : ¬ t.getD k 0 < 0) (i : Nat) : cntI (t.take (k+1)) (-1 - (i : Int)) = cntI (t.take k) (-1 - (i : Int)) :=
  cntI_no t _ k hk (by omega)
theorem cntd_neg {t : List Int} {k : Nat} (g : Int → Int) (hk : k < t.length) (hx : t.getD k 0 < 0) :
    (fun i : Nat => if i = (-1 - t.getD k 0).toNat then g (t.getD k 0) - (cntI (t.take k) (t.getD k 0) : Int) - 1 else g (-1 - (i : Int)) - (cntI (t.take k) (-1 - (i : Int)) : Int)) = fun i : Nat => g (-1 - (i : Int)) - (cntI (t.take (k+1)) (-1 - (i : Int)) : Int) := by
  funext i
  by_cases e : i = (-1 - t.getD k 0).toNat
  · have e2 : -1 - (i : Int) = t.getD k 0 := by omega
    rw [if_pos e, e2, cntI_yes t _ k hk rfl]; omega
  · have e2 : t.getD k 0 ≠ -1 - (i : Int) := by omega
    rw [if_neg e, cntI_no t _ k hk e2]
theorem cntI_take (t : List Int) (k : Nat) (n : Int) : cntI (t.take k) n ≤ cntI t n := by
  rw [cntI_count, cntI_count]
  exact (List.take_sublist k t).count_le n
theorem covers_no {a b : List Int} {k : Nat} (hk : k < b.length) (hx : b.getD k 0 < 0) (h : cntI a (b.getD k 0) < cntI (b.take k) (b.getD k 0) + 1) : covers a b = false := by
  rw [Bool.eq_false_iff]; intro hc
  have h1 := covers_iff.1 hc _ hx
  have h2 := cntI_take b (k+1) (b.getD k 0)
  rw [cntI_yes b _ k hk rfl] at h2
  rw [← cntI_count, ← cntI_count] at h1
  omega
def SoFar (a b : List Int) (k : Nat) : Prop := ∀ n, n < 0 → cntI (b.take k) n ≤ cntI a n
theorem SoFar.neg {a b : List Int} {k : Nat} (h : SoFar a b k) (hk : k < b.length) (hx : ¬ cntI a (b.getD k 0) < cntI (b.take k) (b.getD k 0) + 1) : SoFar a b (k+1) := fun n hn => by
  by_cases e : b.getD k 0 = n
  · rw [cntI_yes b n k hk e]; rw [e] at hx; omega
  · rw [cntI_no b n k hk e]; exact h n hn
theorem SoFar.sym {a b : List Int} {k : Nat} (h : SoFar a b k) (hk : k < b.length) (hx : ¬ b.getD k 0 < 0) : SoFar a b (k+1) := fun n hn => by
  rw [cntI_no b n k hk (by omega)]; exact h n hn
theorem SoFar.done {a b : List Int} {k : Nat} (h : SoFar a b k) (hk : ¬ k < b.length) : covers a b = true := covers_iff.2 fun n hn => by
  have := h n hn
  rw [List.take_of_length_le (by omega), cntI_count, cntI_count] at this
  exact this

set_option maxRecDepth 100000 in
set_option maxHeartbeats 400000 in
theorem coversVars_c (l h l' h' : Nat) (v u : Value) (a b : List Int) (w : World) (ha : a.length ≤ 1048576) (hb : b.length ≤ 1048576) (hla : lowT a) (hlb : lowT b) (hv : SlI l h w v a) (hu : SlI l' h' w u b) :
    Calls Tryz.prog 157 #[v, u] w (RetV w (.bool (covers a b))) := by
  obtain ⟨ad, cap, rfl, -, -, hr⟩ := hv
  obtain ⟨ad', cap', rfl, -, -, hr'⟩ := hu
  go_enter Tryz.func157, Tryz.ntmps157
  go_wp2_with fail
  go_loopw [12] (fun i wr => ∃ k : Nat, k ≤ a.length ∧ i = .int .i64 k ∧ BlkN wr w.heap.size 153 (fun i : Nat => (cntI (a.take k) (-1 - (i : Int)) : Int)) ∧ Bel w wr) (fun i _ => a.length - (intOf i).toNat)
  case atStart => exact ⟨0, Nat.zero_le _, rfl, by exact heap_alloc_new w _, Bel.alloc0 _ _⟩
  case round =>
    obtain ⟨k, hk, rfl, hN, hb1⟩ := hrel
    by_cases hlt : k < a.length
    · obtain ⟨b0, off, rfl, -, hcell⟩ := rd hr hb1 k hlt
      have hlow := hla k hlt
      have E1 := Lib.hid (cntf_neg hlt)
      have E2 := Lib.hid (cntf_sym hlt)
      have hc0 : cntI (a.take k) (a.getD k 0) ≤ 1048576 := Nat.le_trans (cntI_take a k _) (Nat.le_trans (cntI_le a _) ha)
      clear hr hr'
      generalize a.getD k 0 = x at *
      by_cases hx : x < 0
      · have hx' : decide (x < 0) = true := by simpa using hx
        have hm12 : (-1 - x).toNat < 12 := by omega
        have hi0 : 0 ≤ -1 - x := by omega
        have hi1 : -1 - x < 12 := by omega
        have hcN := hN.cell _ hm12
        have hfN := hN.free (-1 - x).toNat
        have e3 : -1 - (((-1 - x).toNat : Nat) : Int) = x := by omega
        simp only [e3] at hcN
        have E := Lib.hid (E1.out hx)
        clear E1 E2
        generalize hq : cntI (a.take k) x = c at *
        have HN := Lib.hid (hN.set _ hm12 ((c : Int) + 1))
        clear hN
        go_wp2_with fail
        go_roundw
        case rel => exact ⟨k+1, by omega, by go_num, by rw [← E.out]; exact HN.out, hb1.setCell (p := ⟨w.heap.size, (-1 - x).toNat, none⟩) (Nat.le_refl _) _⟩
        case measure => simp [intOf]; omega
      · have hx' : decide (x < 0) = false := by simpa using hx
        have E := Lib.hid (E2.out hx)
        clear E1 E2
        go_wp2_with fail
        go_roundw
        case rel => exact ⟨k+1, by omega, by go_num, by simp only [E.out]; exact hN, hb1⟩
        case measure => simp [intOf]; omega
    · rw [List.take_of_length_le (show a.length ≤ k by omega)] at hN
      go_wp2_with fail
      go_loopw [27] (fun i wr => ∃ k : Nat, k ≤ b.length ∧ i = .int .i64 k ∧ SoFar a b k ∧ BlkN wr w.heap.size 153 (fun i : Nat => (cntI a (-1 - (i : Int)) : Int) - (cntI (b.take k) (-1 - (i : Int)) : Int)) ∧ Bel w wr) (fun i _ => b.length - (intOf i).toNat)
      case atStart => exact ⟨0, Nat.zero_le _, rfl, fun n _ => by simp [cntI], by simpa [cntI] using hN, hb1⟩
      case round =>
        clear hN hb1
        obtain ⟨j, hj, rfl, hS, hN, hb2⟩ := hrel
        by_cases hlt2 : j < b.length
        · obtain ⟨b0, off, rfl, -, hcell⟩ := rd hr' hb2 j hlt2
          have hlow := hlb j hlt2
          have E1 := Lib.hid (cntd_neg (t := b) (fun n => (cntI a n : Int)) hlt2)
          have E2 := Lib.hid (cntf_sym hlt2)
          have E3 := Lib.hid (covers_no (a := a) hlt2)
          have E4 := Lib.hid (hS.neg hlt2)
          have E5 := Lib.hid (hS.sym hlt2)
          have hc0 : cntI (b.take j) (b.getD j 0) ≤ 1048576 := Nat.le_trans (cntI_take b j _) (Nat.le_trans (cntI_le b _) hb)
          have hc1 : cntI a (b.getD j 0) ≤ 1048576 := by have := cntI_le a (b.getD j 0); omega
          clear hr hr' hS
          generalize b.getD j 0 = x at *
          by_cases hx : x < 0
          · have hx' : decide (x ≥ 0) = false := by simp; omega
            have hm12 : (-1 - x).toNat < 12 := by omega
            have hi0 : 0 ≤ -1 - x := by omega
            have hi1 : -1 - x < 12 := by omega
            have hcN := hN.cell _ hm12
            have hfN := hN.free (-1 - x).toNat
            have e3 : -1 - (((-1 - x).toNat : Nat) : Int) = x := by omega
            simp only [e3] at hcN
            have E := Lib.hid (E1.out hx)
            clear E1 E2 E5
            generalize hq : cntI (b.take j) x = c at *
            generalize hq2 : cntI a x = d at *
            have hw1 := IntWalk.i64_in ((d : Int) - c - 1) (by omega)
            have hN2 := hN.set _ hm12 ((d : Int) - c - 1)
            have hcN2 := hN2.cell _ hm12
            simp only [if_true] at hcN2
            have HN := Lib.hid hN2
            clear hN hN2
            by_cases hdc : d < c + 1
            · have e1 := Lib.hid (E3.out hx hdc)
              have hd : decide ((d : Int) - c - 1 < 0) = true := by simp; omega
              clear E3 E4 E
              go_wp2_with fail
              go_ret
              exact ⟨by rw [e1.out]; rfl, hb2.setCell (p := ⟨w.heap.size, (-1 - x).toNat, none⟩) (Nat.le_refl _) _⟩
            · have e1 := Lib.hid (E4.out hdc)
              have hd : decide ((d : Int) - c - 1 < 0) = false := by simp; omega
              clear E3 E4
              go_wp2_with fail
              go_roundw
              case rel => exact ⟨j+1, by omega, by go_num, e1.out, by rw [← E.out]; exact HN.out, hb2.setCell (p := ⟨w.heap.size, (-1 - x).toNat, none⟩) (Nat.le_refl _) _⟩
              case measure => simp [intOf]; omega
          · have hx' : decide (x ≥ 0) = true := by simp; omega
            have E := Lib.hid (E2.out hx)
            have e1 := Lib.hid (E5.out hx)
            clear E1 E2 E3 E4 E5
            go_wp2_with fail
            go_roundw
            case rel => exact ⟨j+1, by omega, by go_num, e1.out, by simp only [E.out]; exact hN, hb2⟩
            case measure => simp [intOf]; omega
        · have e1 := Lib.hid (hS.done hlt2)
          clear hS
          go_wp2_with fail
          go_ret
          exact ⟨by rw [e1.out]; rfl, hb2⟩
theorem coversVars_v (l h l' h' : Nat) (v u : Value) (a b : List Int) (q : Bool) (w : World) (he : covers a b = q) (ha : a.length ≤ 1048576) (hb : b.length ≤ 1048576) (hla : lowT a) (hlb : lowT b) (hv : SlI l h w v a) (hu : SlI l' h' w u b) :
    Calls Tryz.prog 157 #[v, u] w (RetV w (.bool q)) := he ▸ coversVars_c l h l' h' v u a b w ha hb hla hlb hv hu

theorem winF_at {a b : List Int} {k : Nat} (h : a.take k = b.take k) (ha : k < a.length) (hb : k < b.length) (hne : a.getD k 0 ≠ b.getD k 0) : winF a b = (decide (0 ≤ b.getD k 0) && decide (b.getD k 0 < a.getD k 0)) := by
  have e1 : a = a.take k ++ a.getD k 0 :: a.drop (k+1) := by simp [List.getD, ha]
  have e2 : b = b.take k ++ b.getD k 0 :: b.drop (k+1) := by simp [List.getD, hb]
  generalize a.getD k 0 = x at *
  generalize b.getD k 0 = y at *
  rw [e1, e2, h, winF_left]
  simp [winF, hne]

set_option maxRecDepth 100000 in
set_option maxHeartbeats 400000 in
theorem winsFirst_c (l h l' h' : Nat) (v u : Value) (xs ys : List Int) (w : World) (hl : xs.length = ys.length) (hx : xs.length ≤ 1048576) (hv : SlI l h w v xs) (hu : SlI l' h' w u ys) :
    Calls Tryz.prog 159 #[v, u] w (RetV w (.bool (winF xs ys))) := by
  obtain ⟨ad, cap, rfl, -, -, hr⟩ := hv
  obtain ⟨ad', cap', rfl, -, -, hr'⟩ := hu
  have HL := Lib.hid hl
  clear hl
  go_enter Tryz.func159, Tryz.ntmps159
  go_wp2_with fail
  go_loopw [8] (fun i wr => ∃ k : Nat, k ≤ xs.length ∧ i = .int .i64 k ∧ xs.take k = ys.take k ∧ Bel w wr) (fun i _ => xs.length - (intOf i).toNat)
  case atStart => exact ⟨0, Nat.zero_le _, rfl, rfl, Bel.rfl' _⟩
  case round =>
    obtain ⟨k, hk, rfl, ha, hb⟩ := hrel
    by_cases hlt : k < xs.length
    · have hlt2 : k < ys.length := by rw [← HL.out]; exact hlt
      obtain ⟨b, off, rfl, -, hcell⟩ := rd hr hb k hlt
      obtain ⟨b', off', rfl, -, hcell'⟩ := rd hr' hb k hlt2
      have E1 := Lib.hid (take_eq_succ xs ys k hlt hlt2 ha)
      have E2 := Lib.hid (winF_at ha hlt hlt2)
      clear hr hr' ha
      generalize xs.getD k 0 = x at *
      generalize ys.getD k 0 = y at *
      by_cases hxy : x = y
      · have E3 := Lib.hid (E1.out hxy)
        clear E1 E2
        subst hxy
        go_wp2_with fail
        go_quiet (fail)
        go_wp2
        go_roundw
        case rel => exact ⟨k+1, by omega, by go_num, E3.out, hb.drewN _⟩
        case measure => simp [intOf]; omega
      · have e1 := Lib.hid (E2.out hxy)
        have hxy' : (x != y) = true := by simpa using hxy
        clear hxy E1 E2
        by_cases h0 : 0 ≤ y
        · by_cases h1 : y < x
          · have d0 : decide (y ≥ 0) = true := by simpa using h0
            have d1 : decide (x > y) = true := by simpa using h1
            have e2 : Hid (winF xs ys = true) := by show _ = _; rw [e1.out]; simp [h0, h1]
            clear e1
            go_wp2_with fail
            go_quiet (fail)
            go_wp2
            go_quiet (fail)
            go_wp2
            go_ret
            exact ⟨by rw [e2.out]; rfl, (hb.drewN _).drewN _⟩
          · have d0 : decide (y ≥ 0) = true := by simpa using h0
            have d1 : decide (x > y) = false := by simp; omega
            have e2 : Hid (winF xs ys = false) := by show _ = _; rw [e1.out]; simp [h1]
            clear e1
            go_wp2_with fail
            go_quiet (fail)
            go_wp2
            go_quiet (fail)
            go_wp2
            go_ret
            exact ⟨by rw [e2.out]; rfl, (hb.drewN _).drewN _⟩
        · have d0 : decide (y ≥ 0) = false := by simp; omega
          have e2 : Hid (winF xs ys = false) := by show _ = _; rw [e1.out]; simp [h0]
          clear e1
          go_wp2_with fail
          go_quiet (fail)
          go_wp2
          go_quiet (fail)
          go_wp2
          go_ret
          exact ⟨by rw [e2.out]; rfl, (hb.drewN _).drewN _⟩
    · have e1 : Hid (winF xs ys = false) := by
        show _ = _
        rw [List.take_of_length_le (by omega), List.take_of_length_le (by rw [← HL.out]; omega)] at ha
        rw [ha, winF_irrefl]
      clear ha
      go_wp2_with fail
      go_ret
      exact ⟨by rw [e1.out]; rfl, hb⟩
end Go.Proofs.YteegjnobmbcjiaaGreatDoor
end
section
/- VarsOf: the reference's side. -/
namespace Go.Proofs.YteegjnobmbcjiaaGreatDoor
open Go.RowKit

def setF (f : Nat → Bool) (m : Nat) (i : Nat) : Bool := if i = m then true else f i
def tailF (f : Nat → Bool) (m : Nat) : List Nat := ((List.range 12).drop (m + 1)).filter f
theorem tail_gt {f : Nat → Bool} {m x : Nat} (h : x ∈ tailF f m) : m < x := by
  unfold tailF at h
  have h1 := (List.mem_filter.1 h).1
  rw [List.mem_iff_getElem?] at h1
  obtain ⟨i, hi⟩ := h1
  rw [List.getElem?_drop] at hi
  have h2 := (List.getElem?_eq_some_iff.1 hi)
  obtain ⟨h3, h4⟩ := h2
  simp at h4
  omega
theorem vars_split (f : Nat → Bool) (m : Nat) (h : m < 12) : varsTo f 12 = varsTo f m ++ (if f m then m :: tailF f m else tailF f m) := by
  unfold varsTo tailF
  conv => lhs; rw [← List.take_append_drop m (List.range 12)]
  rw [List.filter_append, List.take_range, Nat.min_eq_left (by omega), List.drop_eq_getElem_cons (by simpa using h), List.filter_cons]
  simp
theorem vars_lt {f : Nat → Bool} {m x : Nat} (h : x ∈ varsTo f m) : x < m := by
  unfold varsTo at h
  have := (List.mem_filter.1 h).1
  simpa using this
theorem set_to (f : Nat → Bool) (m : Nat) : varsTo (setF f m) m = varsTo f m := by
  unfold varsTo
  apply List.filter_congr
  intro x hx
  have : x < m := by simpa using hx
  unfold setF; rw [if_neg (by omega)]
theorem set_tail (f : Nat → Bool) (m : Nat) : tailF (setF f m) m = tailF f m := by
  unfold tailF
  apply List.filter_congr
  intro x hx
  have : m < x := by
    rw [List.mem_iff_getElem?] at hx
    obtain ⟨i, hi⟩ := hx
    rw [List.getElem?_drop] at hi
    obtain ⟨h3, h4⟩ := (List.getElem?_eq_some_iff.1 hi)
    simp at h4
    omega
  unfold setF; rw [if_neg (by omega)]
theorem set_vars (f : Nat → Bool) (m : Nat) (h : m < 12) : varsTo (setF f m) 12 = varsTo f m ++ m :: tailF f m := by
  rw [vars_split _ m h, set_to, set_tail, if_pos (by simp [setF])]
theorem set_same (f : Nat → Bool) (m : Nat) (h : f m = true) : setF f m = f := by
  funext i
  unfold setF
  by_cases e : i = m
  · subst e; rw [if_pos rfl, h]
  · rw [if_neg e]

theorem own_fix {w : World} {base e n n' : Nat} {v : Value} {vs : List Value} {xs : List Int} (hn : n' = n) (hx : vs = xs.map (Value.int .i64)) (h : w.ownsRow base e 1 v n' vs) : w.ownsRow base e 1 v n (xs.map (Value.int .i64)) := by subst hn hx; exact h
/-- A slice of ints: one's own from lo on. -/
def RetO (lo : Nat) (w : World) (xs : List Int) (e : Ending) (w' : World) : Prop := ∃ ad n c, e = .returned (.slice ad n c) ∧ OwnI lo w'.heap.size w' (.slice ad n c) xs ∧ Bel w w'

/-- The slice itself, or a new one. -/
def RetPut (w : World) (v : Value) (f : Nat → Bool) (m : Nat) (e : Ending) (w' : World) : Prop :=
  ∃ ad n c, e = .returned (.slice ad n c) ∧ ((.slice ad n c = v ∧ varsTo (setF f m) 12 = varsTo f 12) ∨ w'.ownsRow w.heap.size 3 1 (.slice ad n c) (natsI (varsTo (setF f m) 12)).length ((natsI (varsTo (setF f m) 12)).map (Value.int .i64))) ∧ Bel w w'
theorem nget (l : List Nat) (k : Nat) (h : k < l.length) : (natsI l).getD k 0 = (l.getD k 0 : Nat) := by simp [natsI, List.getD, h]

set_option maxRecDepth 100000 in
theorem l1Put_nil (m : Nat) (w : World) : Calls Tryz.prog 179 #[.slice none 0 0, .int .i64 m] w (RetR w [(m : Int)]) := by
  obtain ⟨i0, hi0, hz0, hz1, hz2⟩ := info_parts Tryz.info3
  have hown0 : (w.alloc (.cells #[] 3)).ownsRow w.heap.size 3 1 (.slice (some ⟨w.heap.size, 0, none⟩) 0 0) ([] : List Int).length (([] : List Int).map (Value.int .i64)) :=
    World.ownsRow_lit w #[] 0 (Nat.le_refl _) (Nat.zero_le _) rfl
  go_enter Tryz.func179, Tryz.ntmps179
  go_wp2_with fail
  refine wp_loop_rounds 1 ?_
  rw [rounds_succ]
  go_wp2_with (first | (at_builtin; refine wpList_append_own_none rfl (.tmp 34) (.tmp 37) 22 rfl w.heap.size 3 i0 1 Tryz.underlying22 hi0 _ _ _ rfl hown0 rfl ?_) | (at_builtin; refine wpList_append_own _ rfl (.tmp 39) (.tmp 41) 22 rfl w.heap.size 3 i0 (.int .i64 0) 1 8 Tryz.underlying22 hi0 hz0 hz1 hz2 rfl (by decide) _ _ _ rfl (hown0.alloc _) ⟨w.heap.size + 1, 0, none⟩ 1 1 [.int .i64 m] rfl rfl (by have := news_one (w.alloc (.cells #[] 3)) (.int .i64 m) 3; simpa using this) (one_int _) (by unfold maxLen; simp) (by simp) (by simp; omega) ?_; intro v' w1 hown' hgrow _) | (at_builtin; refine wpList_append_own_none rfl (.tmp 43) (.tmp 46) 22 rfl w.heap.size 3 i0 1 Tryz.underlying22 hi0 _ _ _ rfl hown' rfl ?_))
  have hown2 : w1.ownsRow w.heap.size 3 1 v' [(m : Int)].length ([(m : Int)].map (Value.int .i64)) := by simpa using hown'
  obtain ⟨g, n, c, hv'⟩ := own_form hown2
  subst hv'
  go_ret
  exact ⟨_, _, _, rfl, hown2, (Bel.alloc2 w _ _).grown hgrow (fun k hk => own_base hown0 k hk)⟩

set_option maxRecDepth 100000 in
set_option maxHeartbeats 1000000 in
theorem l1Put_p (lo : Nat) (v : Value) (f : Nat → Bool) (m : Nat) (w : World) (hm : m < 12) (_ : lo ≤ w.heap.size) (hnz : 0 < (varsTo f 12).length) (hv : OwnI lo w.heap.size w v (natsI (varsTo f 12))) :
    Calls Tryz.prog 179 #[v, .int .i64 m] w (RetPut w v f m) := by
  obtain ⟨i0, hi0, hz0, hz1, hz2⟩ := info_parts Tryz.info3
  have hv0 := hv
  have hlen := varsTo_len f 12
  have hsp := vars_split f m hm
  have hset := set_vars f m hm
  have hlt0 : ∀ k, k < (varsTo f m).length → ((varsTo f 12).getD k 0) < m := by
    intro k hk
    rw [hsp]
    have : (varsTo f m)[k] ∈ varsTo f m := List.getElem_mem hk
    have := vars_lt this
    simpa [List.getD, List.getElem?_append_left hk, hk] using this
  have hA : (varsTo f m).length ≤ (varsTo f 12).length := by rw [hsp]; simp
  obtain ⟨ad, cap, rfl, -, -, hr⟩ := hv.1
  rw [natsI_len] at hr ⊢
  have HLT := Lib.hid hlt0
  cases hf : f m with
  | true =>
    rw [hf, if_pos rfl] at hsp
    have E : Hid (varsTo (setF f m) 12 = varsTo f 12) := by show _ = _; rw [set_same f m hf]
    have hal : (varsTo f m).length < (varsTo f 12).length := by rw [hsp]; simp
    have hat : (varsTo f 12).getD (varsTo f m).length 0 = m := by rw [hsp]; simp [List.getD]
    have HAT := Lib.hid hat
    clear hsp hset hat hlt0
    generalize hLx : varsTo f 12 = L at *
    generalize (varsTo f m).length = A at *
    have HLX := Lib.hid hLx
    clear hLx
    go_enter Tryz.func179, Tryz.ntmps179
    go_wp2_with fail
    go_loop [5] (fun i => ∃ k : Nat, k ≤ A ∧ i = .int .i64 k) (fun i => A - (intOf i).toNat)
    case atStart => exact ⟨0, Nat.zero_le _, rfl⟩
    case round =>
      obtain ⟨k, hk, rfl⟩ := hrel
      have hkl : k < L.length := by omega
      obtain ⟨b, off, rfl, -, -, hc⟩ := hr (by omega)
      have hcell := hc k hkl
      rw [nget _ _ hkl] at hcell
      have hkl2 : (k : Int) < L.length := by omega
      have hdl : decide ((k : Int) < L.length) = true := by simpa using hkl2
      clear hc hr
      by_cases hka : k < A
      · have hx := HLT.out k hka
        generalize L.getD k 0 = x at *
        have hx2 : (x : Int) < m := by omega
        go_wp2_with fail
        go_round
        case rel => exact ⟨k + 1, by omega, by go_num⟩
        case measure => simp [intOf]; omega
      · have hx : Hid (L.getD k 0 = m) := by show _ = _; rw [← HAT.out]; congr 1; omega
        rw [hx.out] at hcell
        have hmm : ((m : Int) == (m : Int)) = true := by simp
        go_wp2_with fail
        go_ret
        exact ⟨_, _, _, rfl, .inl ⟨rfl, by rw [HLX.out]; exact E.out⟩, Bel.rfl' _⟩
  | false =>
    rw [hf, if_neg (by simp)] at hsp
    have E : Hid (natsI (varsTo (setF f m) 12) = natsI (varsTo f m) ++ [(m : Int)] ++ natsI (tailF f m)) := by show _ = _; rw [hset]; simp [natsI]
    have htk : (natsI (varsTo f 12)).take (varsTo f m).length = natsI (varsTo f m) := by rw [hsp]; simp [natsI]
    have hdr : (natsI (varsTo f 12)).drop (varsTo f m).length = natsI (tailF f m) := by rw [hsp]; simp [natsI]
    have hgt : ∀ k, (varsTo f m).length ≤ k → k < (varsTo f 12).length → m < (varsTo f 12).getD k 0 := by
      intro k h1 h2
      rw [hsp] at h2 ⊢
      have h3 : k - (varsTo f m).length < (tailF f m).length := by simp at h2; omega
      have h4 := tail_gt (List.getElem_mem h3)
      simpa [List.getD, List.getElem?_append_right h1, h3] using h4
    have hll : (varsTo f 12).length = (varsTo f m).length + (tailF f m).length := by rw [hsp]; simp
    have HGT := Lib.hid hgt
    have HTK := Lib.hid htk
    have HDR := Lib.hid hdr
    have hown0 : (w.alloc (.cells #[] 3)).ownsRow w.heap.size 3 1 (.slice (some ⟨w.heap.size, 0, none⟩) 0 0) ([] : List Int).length (([] : List Int).map (Value.int .i64)) :=
      World.ownsRow_lit w #[] 0 (Nat.le_refl _) (Nat.zero_le _) rfl
    clear hsp hset hgt htk hdr hlt0
    have hSL := hv0.1
    generalize hLd : varsTo f 12 = L at *
    generalize hAd : varsTo f m = LA at *
    generalize hBd : tailF f m = LB at *
    clear hLd hAd hBd
    have hll1 : L.length ≤ LA.length + LB.length := by omega
    have hll2 : LA.length + LB.length ≤ L.length := by omega
    clear hll
    have hpos : 0 < L.length := hnz
    obtain ⟨b, off, rfl, -, -, hc⟩ := hr hpos
    have hcapl : L.length ≤ cap := by obtain ⟨_, _, e, h, _⟩ := hSL; simp only [Value.slice.injEq] at e; obtain ⟨-, -, rfl⟩ := e; rwa [natsI_len] at h
    have hlA : LA.length ≤ 12 := by omega
    have hlB : LB.length ≤ 12 := by omega
    have hc1 : ∀ w', Bel w w' → SlI lo w.heap.size w' (.slice (some ⟨b, off, none⟩) LA.length cap) (natsI LA) := fun w' hb => by
      have := (hSL.below hb).cut 0 LA.length (by omega) (by rw [natsI_len]; omega)
      simp only [Nat.add_zero, Nat.sub_zero, List.drop_zero] at this
      rwa [HTK.out] at this
    have HC1 := Lib.hid hc1
    have hcell0 : ∀ k, k < L.length → w.cell? ⟨b, off + k, none⟩ = some (.int .i64 ((L.getD k 0 : Nat) : Int)) := fun k hk => by rw [hc k hk, nget _ _ hk]
    have HCELL := Lib.hid hcell0
    have hparts : (LA.length < L.length ∧ LA.length < cap ∧ Hid (∀ w', Bel w w' → SlI lo w.heap.size w' (.slice (some ⟨b, off + LA.length, none⟩) (L.length - LA.length) (cap - LA.length)) (natsI LB))) ∨ (LA.length = L.length ∧ LB.length = 0) := by
      rcases Nat.lt_or_ge LA.length L.length with h1 | h1
      · refine .inl ⟨h1, by omega, fun w' hb => ?_⟩
        have := (hSL.below hb).cut LA.length L.length (by omega) (by rw [natsI_len]; omega)
        rw [HDR.out, List.take_of_length_le (by rw [natsI_len]; omega)] at this
        exact this
      · exact .inr ⟨by omega, by omega⟩
    clear hc hc1 hcell0 hr hSL
    rcases hparts with ⟨hAl, hAc, HC2⟩ | ⟨hAl, hB0⟩
    · have hAl2 : (LA.length : Int) < L.length := by omega
      have hAc2 : (LA.length : Int) < cap := by omega
      go_enter Tryz.func179, Tryz.ntmps179
      go_wp2_with fail
      go_loop [5] (fun i => ∃ k : Nat, k ≤ LA.length ∧ i = .int .i64 k) (fun i => LA.length - (intOf i).toNat)
      case atStart => exact ⟨0, Nat.zero_le _, rfl⟩
      case round =>
        obtain ⟨k, hk, rfl⟩ := hrel
        have hcell := HCELL.out k (by omega)
        have hdl : decide ((k : Int) < L.length) = true := by simp; omega
        by_cases hka : k < LA.length
        · have hx := HLT.out k hka
          generalize L.getD k 0 = x at *
          have hx2 : (x : Int) < m := by omega
          go_wp2_with fail
          go_round
          case rel => exact ⟨k + 1, by omega, by go_num⟩
          case measure => simp [intOf]; omega
        · obtain rfl : k = LA.length := by omega
          have hx := HGT.out _ (Nat.le_refl _) hAl
          generalize L.getD LA.length 0 = x at *
          have hx2 : (m : Int) < x := by omega
          have hxm : ((x : Int) == (m : Int)) = false := by rw [beq_eq_false_iff_ne]; omega
          have hxm2 : decide ((x : Int) < (m : Int)) = false := by simp; omega
          go_wp2_with (first | (at_builtin; refine wpList_append_own _ rfl (.tmp 34) (.tmp 37) 22 rfl w.heap.size 3 i0 (.int .i64 0) 1 8 Tryz.underlying22 hi0 hz0 hz1 hz2 rfl (by decide) _ _ _ rfl hown0 ⟨b, off, none⟩ LA.length cap ((natsI LA).map (Value.int .i64)) rfl (by simp [natsI_len]) (news_of_sl (HC1.out _ (Bel.alloc0 w _))) (ones_int _) (by simp; unfold maxLen; omega) (by simp; omega) (by simp) ?_; intro v1 w1 hown1 hgrow1 _; have hown1b := own_fix (n := LA.length) (xs := natsI LA) (by simp) (by simp) hown1; have hbw1 := (Bel.alloc0 w _).grown hgrow1 (fun k hk => own_base hown0 k hk)) | (at_builtin; refine wpList_append_own _ rfl (.tmp 39) (.tmp 41) 22 rfl w.heap.size 3 i0 (.int .i64 0) 1 8 Tryz.underlying22 hi0 hz0 hz1 hz2 rfl (by decide) _ _ _ rfl (hown1b.alloc _) ⟨w1.heap.size, 0, none⟩ 1 1 [.int .i64 m] rfl rfl (news_one _ _ _) (one_int _) (by unfold maxLen; omega) (by omega) (by have := hbw1.size; simp; omega) ?_; intro v2 w2 hown2 hgrow2 _; have hbw2 := (hbw1.alloc _).grown hgrow2 (fun k hk => own_base hown1b k hk)) | (at_builtin; refine wpList_append_own _ rfl (.tmp 43) (.tmp 46) 22 rfl w.heap.size 3 i0 (.int .i64 0) 1 8 Tryz.underlying22 hi0 hz0 hz1 hz2 rfl (by decide) _ _ _ rfl hown2 ⟨b, off + LA.length, none⟩ (L.length - LA.length) (cap - LA.length) ((natsI LB).map (Value.int .i64)) rfl (by simp [natsI_len]; omega) (news_of_sl (HC2.out _ hbw2)) (ones_int _) (by unfold maxLen; omega) (by omega) hbw2.size ?_; intro v3 w3 hown3 hgrow3 _; have hbw3 := hbw2.grown hgrow3 (fun k hk => own_base hown2 k hk)))
          have hown4 : w3.ownsRow w.heap.size 3 1 v3 (natsI LA ++ [(m : Int)] ++ natsI LB).length ((natsI LA ++ [(m : Int)] ++ natsI LB).map (Value.int .i64)) := own_fix (by simp [natsI_len]; omega) (by simp) hown3
          obtain ⟨g, n, c, hv'⟩ := own_form hown4
          subst hv'
          go_ret
          exact ⟨_, _, _, rfl, .inr (by rw [E.out]; exact hown4), hbw3⟩
    · have hAl1 : LA.length ≤ L.length := by omega
      have hAl2 : L.length ≤ LA.length := by omega
      have HB0 := Lib.hid (show LB = [] from List.length_eq_zero_iff.1 hB0)
      clear hAl hB0
      by_cases hqc : cap = LA.length
      · subst hqc
        go_enter Tryz.func179, Tryz.ntmps179
        go_wp2_with fail
        go_loop [5] (fun i => ∃ k : Nat, k ≤ LA.length ∧ i = .int .i64 k) (fun i => LA.length - (intOf i).toNat)
        case atStart => exact ⟨0, Nat.zero_le _, rfl⟩
        case round =>
          obtain ⟨k, hk, rfl⟩ := hrel
          by_cases hka : k < LA.length
          · have hcell := HCELL.out k (by omega)
            have hdl : decide ((k : Int) < L.length) = true := by simp; omega
            have hx := HLT.out k hka
            generalize L.getD k 0 = x at *
            have hx2 : (x : Int) < m := by omega
            go_wp2_with fail
            go_round
            case rel => exact ⟨k + 1, by omega, by go_num⟩
            case measure => simp [intOf]; omega
          · obtain rfl : k = LA.length := by omega
            have hdl : decide ((LA.length : Int) < L.length) = false := by simp; omega
            go_wp2_with (first | (at_builtin; refine wpList_append_own _ rfl (.tmp 34) (.tmp 37) 22 rfl w.heap.size 3 i0 (.int .i64 0) 1 8 Tryz.underlying22 hi0 hz0 hz1 hz2 rfl (by decide) _ _ _ rfl hown0 ⟨b, off, none⟩ LA.length _ ((natsI LA).map (Value.int .i64)) rfl (by simp [natsI_len]) (news_of_sl (HC1.out _ (Bel.alloc0 w _))) (ones_int _) (by simp; unfold maxLen; omega) (by simp; omega) (by simp) ?_; intro v1 w1 hown1 hgrow1 _; have hown1b := own_fix (n := LA.length) (xs := natsI LA) (by simp) (by simp) hown1; have hbw1 := (Bel.alloc0 w _).grown hgrow1 (fun k hk => own_base hown0 k hk)) | (at_builtin; refine wpList_append_own _ rfl (.tmp 39) (.tmp 41) 22 rfl w.heap.size 3 i0 (.int .i64 0) 1 8 Tryz.underlying22 hi0 hz0 hz1 hz2 rfl (by decide) _ _ _ rfl (hown1b.alloc _) ⟨w1.heap.size, 0, none⟩ 1 1 [.int .i64 m] rfl rfl (news_one _ _ _) (one_int _) (by unfold maxLen; omega) (by omega) (by have := hbw1.size; simp; omega) ?_; intro v2 w2 hown2 hgrow2 _; have hbw2 := (hbw1.alloc _).grown hgrow2 (fun k hk => own_base hown1b k hk)) | (at_builtin; refine wpList_append_own _ rfl (.tmp 43) (.tmp 46) 22 rfl w.heap.size 3 i0 (.int .i64 0) 1 8 Tryz.underlying22 hi0 hz0 hz1 hz2 rfl (by decide) _ _ _ rfl hown2 _ _ _ [] rfl (by simp; try omega) (by simp) (by simp) (by unfold maxLen; omega) (by omega) hbw2.size ?_; intro v3 w3 hown3 hgrow3 _; have hbw3 := hbw2.grown hgrow3 (fun k hk => own_base hown2 k hk)))
            have hown4 : w3.ownsRow w.heap.size 3 1 v3 (natsI LA ++ [(m : Int)] ++ natsI LB).length ((natsI LA ++ [(m : Int)] ++ natsI LB).map (Value.int .i64)) := own_fix (by rw [HB0.out]; simp [natsI]) (by rw [HB0.out]; simp [natsI]) hown3
            obtain ⟨g, n, c, hv'⟩ := own_form hown4
            subst hv'
            go_ret
            exact ⟨_, _, _, rfl, .inr (by rw [E.out]; exact hown4), hbw3⟩
      · have hAc2 : (LA.length : Int) < cap := by omega
        go_enter Tryz.func179, Tryz.ntmps179
        go_wp2_with fail
        go_loop [5] (fun i => ∃ k : Nat, k ≤ LA.length ∧ i = .int .i64 k) (fun i => LA.length - (intOf i).toNat)
        case atStart => exact ⟨0, Nat.zero_le _, rfl⟩
        case round =>
          obtain ⟨k, hk, rfl⟩ := hrel
          by_cases hka : k < LA.length
          · have hcell := HCELL.out k (by omega)
            have hdl : decide ((k : Int) < L.length) = true := by simp; omega
            have hx := HLT.out k hka
            generalize L.getD k 0 = x at *
            have hx2 : (x : Int) < m := by omega
            go_wp2_with fail
            go_round
            case rel => exact ⟨k + 1, by omega, by go_num⟩
            case measure => simp [intOf]; omega
          · obtain rfl : k = LA.length := by omega
            have hdl : decide ((LA.length : Int) < L.length) = false := by simp; omega
            go_wp2_with (first | (at_builtin; refine wpList_append_own _ rfl (.tmp 34) (.tmp 37) 22 rfl w.heap.size 3 i0 (.int .i64 0) 1 8 Tryz.underlying22 hi0 hz0 hz1 hz2 rfl (by decide) _ _ _ rfl hown0 ⟨b, off, none⟩ LA.length _ ((natsI LA).map (Value.int .i64)) rfl (by simp [natsI_len]) (news_of_sl (HC1.out _ (Bel.alloc0 w _))) (ones_int _) (by simp; unfold maxLen; omega) (by simp; omega) (by simp) ?_; intro v1 w1 hown1 hgrow1 _; have hown1b := own_fix (n := LA.length) (xs := natsI LA) (by simp) (by simp) hown1; have hbw1 := (Bel.alloc0 w _).grown hgrow1 (fun k hk => own_base hown0 k hk)) | (at_builtin; refine wpList_append_own _ rfl (.tmp 39) (.tmp 41) 22 rfl w.heap.size 3 i0 (.int .i64 0) 1 8 Tryz.underlying22 hi0 hz0 hz1 hz2 rfl (by decide) _ _ _ rfl (hown1b.alloc _) ⟨w1.heap.size, 0, none⟩ 1 1 [.int .i64 m] rfl rfl (news_one _ _ _) (one_int _) (by unfold maxLen; omega) (by omega) (by have := hbw1.size; simp; omega) ?_; intro v2 w2 hown2 hgrow2 _; have hbw2 := (hbw1.alloc _).grown hgrow2 (fun k hk => own_base hown1b k hk)) | (at_builtin; refine wpList_append_own _ rfl (.tmp 43) (.tmp 46) 22 rfl w.heap.size 3 i0 (.int .i64 0) 1 8 Tryz.underlying22 hi0 hz0 hz1 hz2 rfl (by decide) _ _ _ rfl hown2 _ _ _ [] rfl (by simp; try omega) (by simp) (by simp) (by unfold maxLen; omega) (by omega) hbw2.size ?_; intro v3 w3 hown3 hgrow3 _; have hbw3 := hbw2.grown hgrow3 (fun k hk => own_base hown2 k hk)))
            have hown4 : w3.ownsRow w.heap.size 3 1 v3 (natsI LA ++ [(m : Int)] ++ natsI LB).length ((natsI LA ++ [(m : Int)] ++ natsI LB).map (Value.int .i64)) := own_fix (by rw [HB0.out]; simp [natsI]) (by rw [HB0.out]; simp [natsI]) hown3
            obtain ⟨g, n, c, hv'⟩ := own_form hown4
            subst hv'
            go_ret
            exact ⟨_, _, _, rfl, .inr (by rw [E.out]; exact hown4), hbw3⟩
theorem l1Put_c (lo : Nat) (v : Value) (f : Nat → Bool) (m : Nat) (w : World) (hm : m < 12) (hlo : lo ≤ w.heap.size) (hnz : 0 < (varsTo f 12).length) (hv : OwnI lo w.heap.size w v (natsI (varsTo f 12))) :
    Calls Tryz.prog 179 #[v, .int .i64 m] w (RetO lo w (natsI (varsTo (setF f m) 12))) := by
  refine (l1Put_p lo v f m w hm hlo hnz hv).mono ?_
  rintro e w' ⟨ad, n, c, rfl, h, hb⟩
  refine ⟨ad, n, c, rfl, ?_, hb⟩
  rcases h with ⟨rfl, h2⟩ | h
  · rw [h2]; exact (hv.below hb).mono (Nat.le_refl _) hb.size
  · exact (OwnI.of_row h).mono hlo (Nat.le_refl _)
end Go.Proofs.YteegjnobmbcjiaaGreatDoor
end
section
namespace Go.Proofs.YteegjnobmbcjiaaGreatDoor
open Go.RowKit

theorem put_empty {f : Nat → Bool} {m : Nat} (hm : m < 12) (h : varsTo f 12 = []) : natsI (varsTo (setF f m) 12) = [(m : Int)] := by
  have h1 := vars_split f m hm
  rw [h] at h1
  have h2 := List.append_eq_nil_iff.1 h1.symm
  have h3 : tailF f m = [] := by
    have := h2.2
    split at this
    · simp at this
    · exact this
  rw [set_vars f m hm, h2.1, h3]; rfl
theorem put_some (f : Nat → Bool) (m : Nat) (hm : m < 12) : 0 < (varsTo (setF f m) 12).length := by rw [set_vars f m hm]; simp; omega

theorem l1Put_z (z : Int) (lo : Nat) (v : Value) (f : Nat → Bool) (m : Nat) (w : World) (hz : z = m) (hm : m < 12) (hlo : lo ≤ w.heap.size) (hnz : 0 < (varsTo f 12).length) (hv : OwnI lo w.heap.size w v (natsI (varsTo f 12))) :
    Calls Tryz.prog 179 #[v, .int .i64 z] w (RetO lo w (natsI (varsTo (setF f m) 12))) := by subst hz; exact l1Put_c lo v f m w hm hlo hnz hv
theorem l1Put_nz (z : Int) (m : Nat) (w : World) (hz : z = m) : Calls Tryz.prog 179 #[.slice none 0 0, .int .i64 z] w (RetR w [(m : Int)]) := by subst hz; exact l1Put_nil m w

/-- A row of ints of the call's own. -/
abbrev RowI (lo : Nat) (w : World) (v : Value) (xs : List Int) : Prop := w.ownsRow lo 3 1 v xs.length (xs.map (Value.int .i64))
theorem RowI.mono {lo lo' : Nat} {w : World} {v : Value} {xs : List Int} (h : RowI lo w v xs) (hl : lo' ≤ lo) : RowI lo' w v xs := by
  refine ⟨h.1, ?_⟩
  rcases h.2 with h0 | ⟨g, cap, cur, e1, e2, r⟩
  · exact .inl h0
  · exact .inr ⟨g, cap, cur, e1, Nat.le_trans hl e2, r⟩
theorem l1Put_q (z : Int) (lo : Nat) (v : Value) (f : Nat → Bool) (m : Nat) (w : World) (hz : z = m) (hm : m < 12) (hlo : lo ≤ w.heap.size) (hnz : 0 < (varsTo f 12).length) (hv : RowI lo w v (natsI (varsTo f 12))) :
    Calls Tryz.prog 179 #[v, .int .i64 z] w (fun e w' => ∃ ad n c, e = .returned (.slice ad n c) ∧ RowI lo w' (.slice ad n c) (natsI (varsTo (setF f m) 12)) ∧ Bel w w') := by
  subst hz
  refine (l1Put_p lo v f m w hm hlo hnz (OwnI.of_row hv)).mono ?_
  rintro e w' ⟨ad, n, c, rfl, h, hb⟩
  refine ⟨ad, n, c, rfl, ?_, hb⟩
  rcases h with ⟨rfl, h2⟩ | h
  · rw [h2]; exact ownsRow_bel hv hb
  · exact RowI.mono h hlo

set_option maxRecDepth 100000 in
set_option maxHeartbeats 300000 in
theorem l1Vars_r (l h : Nat) (v : Value) (t : List Int) (w : World) (ht : t.length ≤ 1048576) (hlow : ∀ k, k < t.length → -12 ≤ t.getD k 0) (hv : SlI l h w v t) :
    Calls Tryz.prog 161 #[v] w (RetR w (natsI (varsTo (mk t) 12))) := by
  obtain ⟨ad, cap, rfl, -, -, hr⟩ := hv
  go_enter Tryz.func161, Tryz.ntmps161
  go_wp2_with fail
  go_loopw [3, 8] (fun o i wr => ∃ k : Nat, k ≤ t.length ∧ i = .int .i64 k ∧ RowI w.heap.size wr o (natsI (varsTo (mk (t.take k)) 12)) ∧ (varsTo (mk (t.take k)) 12 = [] → o = .slice none 0 0) ∧ Bel w wr) (fun _ i _ => t.length - (intOf i).toNat)
  case atStart =>
    have e : varsTo (mk (t.take 0)) 12 = [] := by
      unfold varsTo; rw [List.filter_eq_nil_iff]; intro a _; simp [mk]
    exact ⟨0, Nat.zero_le _, rfl, by rw [e]; exact World.ownsRow_nil _ _ _ _, fun _ => rfl, Bel.rfl' _⟩
  case round =>
    obtain ⟨k, hk, rfl, hown, hnil, hb⟩ := hrel
    by_cases hlt : k < t.length
    · obtain ⟨b, off, rfl, -, hcell⟩ := rd hr hb k hlt
      have hx12 := hlow k hlt
      have E1 := Lib.hid (fun m => mk_step t k m hlt)
      have E2 := Lib.hid (mk_skip t k hlt)
      clear hr hlow
      generalize t.getD k 0 = x at *
      by_cases hx : x < 0
      · obtain ⟨m, hm⟩ : ∃ m : Nat, -1 - x = m := ⟨(-1 - x).toNat, by omega⟩
        have hm12 : m < 12 := by omega
        have E3 : Hid (mk (t.take (k+1)) = setF (mk (t.take k)) m) := by show _ = _; rw [← E1.out m (by omega)]; rfl
        have HM := Lib.hid hm; clear hm
        cases hl : varsTo (mk (t.take k)) 12 with
        | nil =>
          have ho := hnil hl
          have E4 := Lib.hid (put_empty hm12 hl)
          have E5 := Lib.hid (put_some (mk (t.take k)) m hm12)
          subst ho
          clear hown hnil hl
          go_wp2_with fail
          refine (l1Put_nz (-1 - x) m _ HM.out).mono ?_; rintro e w1 ⟨a1, n1, c1, rfl, ho1, hb1⟩
          go_wp2_with fail
          go_roundw
          case rel => exact ⟨k+1, by omega, by go_num, by rw [E3.out, E4.out]; exact RowI.mono ho1 hb.size, fun h => by rw [E3.out] at h; have := E5.out; rw [h] at this; simp at this, hb.step hb1⟩
          case measure => simp [intOf]; omega
        | cons y ys =>
          have hpos : 0 < (varsTo (mk (t.take k)) 12).length := by rw [hl]; simp
          have E5 := Lib.hid (put_some (mk (t.take k)) m hm12)
          have HO := Lib.hid hown
          clear hown hnil hl
          go_wp2_with fail
          refine (l1Put_q (-1 - x) w.heap.size _ (mk (t.take k)) m _ HM.out hm12 hb.size hpos HO.out).mono ?_; rintro e w1 ⟨a1, n1, c1, rfl, ho1, hb1⟩
          go_wp2_with fail
          go_roundw
          case rel => exact ⟨k+1, by omega, by go_num, by rw [E3.out]; exact ho1, fun h => by rw [E3.out] at h; have := E5.out; rw [h] at this; simp at this, hb.step hb1⟩
          case measure => simp [intOf]; omega
      · have HO := Lib.hid hown
        have HN := Lib.hid hnil
        clear hown hnil
        go_wp2_with fail
        go_roundw
        case rel => exact ⟨k+1, by omega, by go_num, by rw [← E2.out (by omega)]; exact HO.out, by rw [← E2.out (by omega)]; exact HN.out, hb⟩
        case measure => simp [intOf]; omega
    · rw [show t.take k = t from List.take_of_length_le (by omega)] at hown
      obtain ⟨g, n, c2, hv'⟩ := own_form hown
      subst hv'
      have HO := Lib.hid hown
      clear hown hnil
      go_wp2_with fail
      go_ret
      exact ⟨_, _, _, rfl, HO.out, hb⟩
theorem l1Vars_c (l h : Nat) (v : Value) (t : List Int) (w : World) (ht : t.length ≤ 1048576) (hlow : ∀ k, k < t.length → -12 ≤ t.getD k 0) (hv : SlI l h w v t) :
    Calls Tryz.prog 161 #[v] w (RetI w (natsI (varsTo (mk t) 12))) := (l1Vars_r l h v t w ht hlow hv).mono fun _ _ h => h.i
end Go.Proofs.YteegjnobmbcjiaaGreatDoor
end
section
/- The ordering of two terms: comparing, both functions. -/
namespace Go.Proofs.YteegjnobmbcjiaaGreatDoor
open Go.RowKit

set_option maxRecDepth 100000 in
set_option maxHeartbeats 400000 in
theorem isAbove_c (l h l' h' : Nat) (v u : Value) (a b : List Int) (w : World) (hT : Tab w) (ha : a.length ≤ 1048576) (hb : b.length ≤ 1048576) (hla : lowT a) (hlb : lowT b) (hv : SlI l h w v a) (hu : SlI l' h' w u b) :
    Calls Tryz.prog 142 #[v, u] w (RetV w (.bool (above a b))) := by
  cases hc : covers a b with
  | false =>
    have E : Hid (above a b = false) := by show _ = _; simp [above, hc]
    have HC := Lib.hid (coversVars_v l h l' h' v u a b false w hc ha hb hla hlb hv hu)
    clear hc
    go_enter Tryz.func142, Tryz.ntmps142
    go_wp2_with fail
    refine HC.out.mono ?_; rintro e w1 ⟨rfl, hb1⟩
    go_wp2_with fail
    go_ret
    exact ⟨by rw [E.out]; rfl, hb1⟩
  | true =>
    have HC := Lib.hid (coversVars_v l h l' h' v u a b true w hc ha hb hla hlb hv hu)
    have HW := Lib.hid (fun (w' : World) (hq : Bel w w') => weightOf_c l h v a w' (hT.bel hq) ha (hv.below hq))
    have HX := Lib.hid (fun (w' : World) (hq : Bel w w') => weightOf_c l' h' u b w' (hT.bel hq) hb (hu.below hq))
    have hw0 := IntWalk.i64_in ((a.length : Int) - b.length) (by omega)
    rcases Nat.lt_trichotomy a.length b.length with hl | hl | hl
    · have E : Hid (above a b = false) := by show _ = _; rw [Bool.eq_false_iff, ne_eq, above_iff]; omega
      have d0 : decide (b.length < a.length) = false := by simp; omega
      have d1 : ((a.length : Int) - b.length == 0) = false := by simp; omega
      clear hc
      go_enter Tryz.func142, Tryz.ntmps142
      go_wp2_with fail
      refine HC.out.mono ?_; rintro e w1 ⟨rfl, hb1⟩
      go_wp2_with fail
      refine (HW.out _ hb1).mono ?_; rintro e w2 ⟨rfl, hb2⟩
      go_wp2_with fail
      refine (HX.out _ (hb1.step hb2)).mono ?_; rintro e w3 ⟨rfl, hb3⟩
      go_wp2_with fail
      go_ret
      exact ⟨by rw [E.out]; rfl, (hb1.step hb2).step hb3⟩
    · have E : Hid (above a b = winF a b) := by show _ = _; unfold above; simp [hc, hl]
      have HF := Lib.hid (fun (w' : World) (hq : Bel w w') => winsFirst_c l h l' h' v u a b w' hl ha (hv.below hq) (hu.below hq))
      have d0 : decide (b.length < a.length) = false := by simp; omega
      have d1 : ((a.length : Int) - b.length == 0) = true := by simp; omega
      clear hc
      generalize winF a b = q at *
      cases q
      all_goals
        go_enter Tryz.func142, Tryz.ntmps142
        go_wp2_with fail
        refine HC.out.mono ?_; rintro e w1 ⟨rfl, hb1⟩
        go_wp2_with fail
        refine (HW.out _ hb1).mono ?_; rintro e w2 ⟨rfl, hb2⟩
        go_wp2_with fail
        refine (HX.out _ (hb1.step hb2)).mono ?_; rintro e w3 ⟨rfl, hb3⟩
        go_wp2_with fail
        refine (HF.out _ ((hb1.step hb2).step hb3)).mono ?_; rintro e w4 ⟨rfl, hb4⟩
        go_wp2_with fail
        go_ret
        exact ⟨by rw [E.out]; rfl, ((hb1.step hb2).step hb3).step hb4⟩
    · have E : Hid (above a b = true) := by show _ = _; rw [above_iff]; exact ⟨covers_iff.1 hc, .inl hl⟩
      have d0 : decide (b.length < a.length) = true := by simp; omega
      clear hc
      go_enter Tryz.func142, Tryz.ntmps142
      go_wp2_with fail
      refine HC.out.mono ?_; rintro e w1 ⟨rfl, hb1⟩
      go_wp2_with fail
      refine (HW.out _ hb1).mono ?_; rintro e w2 ⟨rfl, hb2⟩
      go_wp2_with fail
      refine (HX.out _ (hb1.step hb2)).mono ?_; rintro e w3 ⟨rfl, hb3⟩
      go_wp2_with fail
      go_ret
      exact ⟨by rw [E.out]; rfl, (hb1.step hb2).step hb3⟩
theorem isAbove_v (l h l' h' : Nat) (v u : Value) (a b : List Int) (q : Bool) (w : World) (he : above a b = q) (hT : Tab w) (ha : a.length ≤ 1048576) (hb : b.length ≤ 1048576) (hla : lowT a) (hlb : lowT b) (hv : SlI l h w v a) (hu : SlI l' h' w u b) :
    Calls Tryz.prog 142 #[v, u] w (RetV w (.bool q)) := he ▸ isAbove_c l h l' h' v u a b w hT ha hb hla hlb hv hu

/-- The reference's. -/
def wt (a b : List Int) (v : Int) : Bool := decide (cntI b (-1 - v) ≤ cntI a (-1 - v))
theorem covers_vars {a b : List Int} (hb : lowT b) : covers a b = (natsI (varsTo (mk b) 12)).all (wt a b) := by
  rw [Bool.eq_iff_iff, covers_iff, List.all_eq_true]
  constructor
  · intro h v hv
    obtain ⟨n, hn, rfl⟩ := List.mem_map.1 hv
    have := h (-1 - (n : Int)) (by omega)
    rw [← cntI_count, ← cntI_count] at this
    simpa [wt] using this
  · intro h n hn
    by_cases hm : n ∈ b
    · have hl := hb.mem hm
      have hv : (((-1 - n).toNat : Nat) : Int) ∈ natsI (varsTo (mk b) 12) := by
        refine List.mem_map.2 ⟨(-1 - n).toNat, ?_, rfl⟩
        unfold varsTo
        rw [List.mem_filter, List.mem_range]
        refine ⟨by omega, ?_⟩
        unfold mk
        rw [show -1 - (((-1 - n).toNat : Nat) : Int) = n by omega]
        simpa using hm
      have := h _ hv
      unfold wt at this
      rw [show -1 - (((-1 - n).toNat : Nat) : Int) = n by omega] at this
      rw [← cntI_count, ← cntI_count]
      simpa using this
    · rw [List.count_eq_zero_of_not_mem hm]; omega
theorem vars_bound {b : List Int} {k : Nat} (hk : k < (natsI (varsTo (mk b) 12)).length) : 0 ≤ (natsI (varsTo (mk b) 12)).getD k 0 ∧ (natsI (varsTo (mk b) 12)).getD k 0 ≤ 11 := by
  have hm : (natsI (varsTo (mk b) 12)).getD k 0 ∈ natsI (varsTo (mk b) 12) := by simp [List.getD, hk]
  obtain ⟨n, hn, e⟩ := List.mem_map.1 hm
  unfold varsTo at hn
  rw [List.mem_filter, List.mem_range] at hn
  rw [← e]; omega

set_option maxRecDepth 100000 in
set_option maxHeartbeats 400000 in
theorem l3Weighs_c (l h l' h' : Nat) (v u : Value) (a b : List Int) (w : World) (ha : a.length ≤ 1048576) (hb : b.length ≤ 1048576) (hlb : lowT b) (hv : SlI l h w v a) (hu : SlI l' h' w u b) :
    Calls Tryz.prog 149 #[v, u] w (RetV w (.bool (covers a b))) := by
  have hcv := covers_vars (a := a) hlb
  have hvb := fun k => vars_bound (b := b) (k := k)
  have HV := Lib.hid (l1Vars_c l' h' u b w hb hlb hu)
  have hvl : (natsI (varsTo (mk b) 12)).length ≤ 12 := by rw [natsI_len]; exact varsTo_len _ _
  have HA := Lib.hid (fun (w' : World) (hq : Bel w w') (n : Int) => l1Count_c l h v a n w' ha (hv.below hq))
  have HB := Lib.hid (fun (w' : World) (hq : Bel w w') (n : Int) => l1Count_c l' h' u b n w' hb (hu.below hq))
  generalize natsI (varsTo (mk b) 12) = L at *
  go_enter Tryz.func149, Tryz.ntmps149
  go_wp2_with fail
  refine HV.out.mono ?_; rintro e w1 ⟨ad, n, c, rfl, ho, hb1⟩
  have hn := ho.sl
  obtain ⟨ad2, c2, e2, -, -, hr⟩ := hn
  simp only [Value.slice.injEq] at e2
  obtain ⟨rfl, rfl, rfl⟩ := e2
  go_wp2_with fail
  go_loopw [10] (fun i wr => ∃ k : Nat, k ≤ L.length ∧ i = .int .i64 k ∧ (L.take k).all (wt a b) = true ∧ Bel w1 wr) (fun i _ => L.length - (intOf i).toNat)
  case atStart => exact ⟨0, Nat.zero_le _, rfl, rfl, Bel.rfl' _⟩
  case round =>
    obtain ⟨k, hk, rfl, hall, hb2⟩ := hrel
    by_cases hlt : k < L.length
    · obtain ⟨b0, off, rfl, -, hcell⟩ := rd hr hb2 k hlt
      have hx := hvb k hlt
      have hsp := Lib.hid (all_split L (wt a b) k hlt hall)
      have hfs := Lib.hid (all_false L (wt a b) k hlt)
      clear hr hvb hall
      generalize L.getD k 0 = x at *
      have hw0 := IntWalk.i64_in (-1 - x) (by omega)
      by_cases hlt2 : cntI a (-1 - x) < cntI b (-1 - x)
      · have E : Hid (covers a b = false) := by show _ = _; rw [hcv]; refine hfs.out ?_; simp [wt]; omega
        have hd : decide ((cntI a (-1 - x) : Int) < cntI b (-1 - x)) = true := by simp; omega
        clear hcv
        go_wp2_with fail
        refine (HA.out _ (hb1.step hb2) _).mono ?_; rintro e w2 ⟨rfl, hb3⟩
        go_wp2_with fail
        refine (HB.out _ ((hb1.step hb2).step hb3) _).mono ?_; rintro e w3 ⟨rfl, hb4⟩
        go_wp2_with fail
        go_ret
        exact ⟨by rw [E.out]; rfl, ((hb1.step hb2).step hb3).step hb4⟩
      · have E : Hid ((L.take (k+1)).all (wt a b) = true) := by show _ = _; rw [hsp.out]; simp [wt]; omega
        have hd : decide ((cntI a (-1 - x) : Int) < cntI b (-1 - x)) = false := by simp; omega
        clear hcv
        go_wp2_with fail
        refine (HA.out _ (hb1.step hb2) _).mono ?_; rintro e w2 ⟨rfl, hb3⟩
        go_wp2_with fail
        refine (HB.out _ ((hb1.step hb2).step hb3) _).mono ?_; rintro e w3 ⟨rfl, hb4⟩
        go_wp2_with fail
        go_roundw
        case rel => exact ⟨k+1, by omega, by go_num, E.out, (hb2.step hb3).step hb4⟩
        case measure => simp [intOf]; omega
    · have E : Hid (covers a b = true) := by show _ = _; rw [hcv]; exact all_done L _ k hk hlt hall
      clear hall hcv
      go_wp2_with fail
      go_ret
      exact ⟨by rw [E.out]; rfl, hb1.step hb2⟩
theorem l3Weighs_v (l h l' h' : Nat) (v u : Value) (a b : List Int) (q : Bool) (w : World) (he : covers a b = q) (ha : a.length ≤ 1048576) (hb : b.length ≤ 1048576) (hlb : lowT b) (hv : SlI l h w v a) (hu : SlI l' h' w u b) :
    Calls Tryz.prog 149 #[v, u] w (RetV w (.bool q)) := he ▸ l3Weighs_c l h l' h' v u a b w ha hb hlb hv hu

set_option maxRecDepth 100000 in
set_option maxHeartbeats 400000 in
theorem l3Greater_c (l h l' h' : Nat) (v u : Value) (xs ys : List Int) (w : World) (ha : xs.length ≤ 1048576) (hb : ys.length ≤ 1048576) (hlb : lowT ys) (hv : SlI l h w v xs) (hu : SlI l' h' w u ys) :
    Calls Tryz.prog 129 #[v, u] w (RetV w (.bool (above xs ys))) := by
  have hv0 := hv
  have hu0 := hu
  obtain ⟨ad, cap, rfl, -, -, hr⟩ := hv
  obtain ⟨ad', cap', rfl, -, -, hr'⟩ := hu
  cases hc : covers xs ys with
  | false =>
    have E : Hid (above xs ys = false) := by show _ = _; simp [above, hc]
    have HC := Lib.hid (l3Weighs_v l h l' h' _ _ xs ys false w hc ha hb hlb hv0 hu0)
    clear hc hr hr'
    go_enter Tryz.func129, Tryz.ntmps129
    go_wp2_with fail
    refine HC.out.mono ?_; rintro e w1 ⟨rfl, hb1⟩
    go_wp2_with fail
    go_ret
    exact ⟨by rw [E.out]; rfl, hb1⟩
  | true =>
    have HC := Lib.hid (l3Weighs_v l h l' h' _ _ xs ys true w hc ha hb hlb hv0 hu0)
    rcases Nat.lt_trichotomy xs.length ys.length with hl | hl | hl
    · have E : Hid (above xs ys = false) := by show _ = _; rw [Bool.eq_false_iff, ne_eq, above_iff]; omega
      have d0 : decide (xs.length < ys.length) = true := by simp; omega
      clear hc hr hr'
      go_enter Tryz.func129, Tryz.ntmps129
      go_wp2_with fail
      refine HC.out.mono ?_; rintro e w1 ⟨rfl, hb1⟩
      go_wp2_with fail
      go_ret
      exact ⟨by rw [E.out]; rfl, hb1⟩
    · have E : Hid (above xs ys = winF xs ys) := by show _ = _; unfold above; simp [hc, hl]
      have d0 : decide (xs.length < ys.length) = false := by simp; omega
      have d1 : decide (ys.length < xs.length) = false := by simp; omega
      have HL := Lib.hid hl
      clear hc hl
      go_enter Tryz.func129, Tryz.ntmps129
      go_wp2_with fail
      refine HC.out.mono ?_; rintro e w1 ⟨rfl, hb1⟩
      go_wp2_with fail
      go_loopw [24] (fun i wr => ∃ k : Nat, k ≤ xs.length ∧ i = .int .i64 k ∧ xs.take k = ys.take k ∧ Bel w wr) (fun i _ => xs.length - (intOf i).toNat)
      case atStart => exact ⟨0, Nat.zero_le _, rfl, rfl, hb1⟩
      case round =>
        obtain ⟨k, hk, rfl, ha2, hb2⟩ := hrel
        by_cases hlt : k < xs.length
        · have hlt2 : k < ys.length := by rw [← HL.out]; exact hlt
          obtain ⟨b, off, rfl, -, hcell⟩ := rd hr hb2 k hlt
          obtain ⟨b', off', rfl, -, hcell'⟩ := rd hr' hb2 k hlt2
          have E1 := Lib.hid (take_eq_succ xs ys k hlt hlt2 ha2)
          have E2 := Lib.hid (winF_at ha2 hlt hlt2)
          clear hr hr' ha2 hv0 hu0
          generalize xs.getD k 0 = x at *
          generalize ys.getD k 0 = y at *
          by_cases hxy : x = y
          · have E3 := Lib.hid (E1.out hxy)
            clear E1 E2
            subst hxy
            go_wp2_with fail
            go_quiet (fail)
            go_wp2
            go_roundw
            case rel => exact ⟨k+1, by omega, by go_num, E3.out, hb2.drewN _⟩
            case measure => simp [intOf]; omega
          · have e1 := Lib.hid (E2.out hxy)
            have hxy' : (x != y) = true := by simpa using hxy
            clear hxy E1 E2
            by_cases hx0 : 0 ≤ x
            · have dx : decide (x ≥ 0) = true := by simpa using hx0
              by_cases h0 : 0 ≤ y
              · have d2 : decide (y ≥ 0) = true := by simpa using h0
                by_cases h1 : y < x
                · have d3 : decide (x > y) = true := by simpa using h1
                  have e2 : Hid (above xs ys = true) := by show _ = _; rw [E.out, e1.out]; simp [h0, h1]
                  clear e1
                  go_wp2_with fail
                  go_quiet (fail)
                  go_wp2
                  go_quiet (fail)
                  go_wp2
                  go_ret
                  exact ⟨by rw [e2.out]; rfl, (hb2.drewN _).drewN _⟩
                · have d3 : decide (x > y) = false := by simp; omega
                  have e2 : Hid (above xs ys = false) := by show _ = _; rw [E.out, e1.out]; simp [h1]
                  clear e1
                  go_wp2_with fail
                  go_quiet (fail)
                  go_wp2
                  go_quiet (fail)
                  go_wp2
                  go_ret
                  exact ⟨by rw [e2.out]; rfl, (hb2.drewN _).drewN _⟩
              · have d2 : decide (y ≥ 0) = false := by simp; omega
                have e2 : Hid (above xs ys = false) := by show _ = _; rw [E.out, e1.out]; simp [h0]
                clear e1
                go_wp2_with fail
                go_quiet (fail)
                go_wp2
                go_quiet (fail)
                go_wp2
                go_ret
                exact ⟨by rw [e2.out]; rfl, (hb2.drewN _).drewN _⟩
            · have dx : decide (x ≥ 0) = false := by simp; omega
              have e2 : Hid (above xs ys = false) := by show _ = _; rw [E.out, e1.out]; simp; omega
              clear e1
              go_wp2_with fail
              go_quiet (fail)
              go_wp2
              go_quiet (fail)
              go_wp2
              go_ret
              exact ⟨by rw [e2.out]; rfl, (hb2.drewN _).drewN _⟩
        · have e1 : Hid (above xs ys = false) := by
            show _ = _
            rw [List.take_of_length_le (by omega), List.take_of_length_le (by rw [← HL.out]; omega)] at ha2
            rw [E.out, ha2, winF_irrefl]
          clear ha2
          go_wp2_with fail
          go_ret
          exact ⟨by rw [e1.out]; rfl, hb2⟩
    · have E : Hid (above xs ys = true) := by show _ = _; rw [above_iff]; exact ⟨covers_iff.1 hc, .inl hl⟩
      have d0 : decide (xs.length < ys.length) = false := by simp; omega
      have d1 : decide (ys.length < xs.length) = true := by simp; omega
      clear hc hr hr'
      go_enter Tryz.func129, Tryz.ntmps129
      go_wp2_with fail
      refine HC.out.mono ?_; rintro e w1 ⟨rfl, hb1⟩
      go_wp2_with fail
      go_ret
      exact ⟨by rw [E.out]; rfl, hb1⟩
theorem l3Greater_v (l h l' h' : Nat) (v u : Value) (xs ys : List Int) (q : Bool) (w : World) (he : above xs ys = q) (ha : xs.length ≤ 1048576) (hb : ys.length ≤ 1048576) (hlb : lowT ys) (hv : SlI l h w v xs) (hu : SlI l' h' w u ys) :
    Calls Tryz.prog 129 #[v, u] w (RetV w (.bool q)) := he ▸ l3Greater_c l h l' h' v u xs ys w ha hb hlb hv hu
end Go.Proofs.YteegjnobmbcjiaaGreatDoor
end
section
/- CompareLists, IsFalling: the program's inner functions. -/
namespace Go.Proofs.YteegjnobmbcjiaaGreatDoor
open Go.RowKit

theorem RowV.at2 {W wr : World} {ad : Option Addr} {n c : Nat} {xss : List (List Int)} (h : RowV W wr (.slice ad n c) xss) (k : Nat) (hk : k < xss.length) :
    ∃ g ap cp, ad = some ⟨g, 0, none⟩ ∧ W.heap.size ≤ g ∧ wr.cell? ⟨g, k, none⟩ = some (.slice ap (xss.getD k []).length cp) ∧ SlI 0 W.heap.size W (.slice ap (xss.getD k []).length cp) (xss.getD k []) := by
  obtain ⟨g, z, h1, h2, h3, h4⟩ := h.at k hk
  obtain ⟨x, y, hf⟩ := h4.form
  rw [hf] at h3 h4
  exact ⟨g, x, y, h1, h2, h3, h4⟩
theorem minus_short {a b : List (List Int)} (h : short a) : short (minus a b) := by
  refine ⟨Nat.le_trans (minus_len a b) h.1, fun j hj => ?_⟩
  have hm : (minus a b).getD j [] ∈ a := minus_sub (b := b) (by simp [List.getD, hj])
  obtain ⟨i, hi, e⟩ := List.getElem_of_mem hm
  have := h.2 i hi
  rwa [show a.getD i [] = a[i] from by simp [List.getD, hi], e] at this
/-- All elements low. -/
def lowL (l : List (List Int)) : Prop := ∀ j, j < l.length → lowT (l.getD j [])
theorem minus_low {a b : List (List Int)} (h : lowL a) : lowL (minus a b) := fun j hj => by
  have hm : (minus a b).getD j [] ∈ a := minus_sub (b := b) (by simp [List.getD, hj])
  obtain ⟨i, hi, e⟩ := List.getElem_of_mem hm
  have := h i hi
  rwa [show a.getD i [] = a[i] from by simp [List.getD, hi], e] at this

set_option maxRecDepth 100000 in
set_option maxHeartbeats 400000 in
theorem without_c (l h l' h' : Nat) (v u : Value) (a b : List (List Int)) (w : World) (ha : short a) (hb : short b) (hv : SlS l h w v a) (hu : SlS l' h' w u b) :
    Calls Tryz.prog 124 #[v, u] w (RetRow w (minus a b)) := by
  obtain ⟨ad', cap', rfl⟩ := hu.form
  obtain ⟨hbl, hbm⟩ := hb
  have HA := Lib.hid ha
  have hal := ha.1
  clear ha
  go_enter Tryz.func124, Tryz.ntmps124
  go_wp2_with fail
  refine (cloneS_c _ _ _ a w hal hv).mono ?_; rintro e w1 ⟨g, n, c, rfl, hR, hb1⟩
  go_wp2_with fail
  go_loopw [5, 14] (fun lv i wr => ∃ k : Nat, k ≤ b.length ∧ i = .int .i64 k ∧ RowV w wr lv (minus a (b.take k)) ∧ Bel w wr) (fun _ i _ => b.length - (intOf i).toNat)
  case atStart => exact ⟨0, Nat.zero_le _, rfl, hR, hb1⟩
  case round =>
    clear hR hb1
    obtain ⟨k, hk, rfl, hR, hb1⟩ := hrel
    by_cases hlt : k < b.length
    · obtain ⟨bb, off, p, rfl, -, hc, hp⟩ := hu.at hb1 k hlt
      have hpm := hbm k hlt
      have HM := Lib.hid (minus_take a b k hlt)
      have HS := Lib.hid (minus_short (b := b.take k) HA.out)
      have hxl : (minus a (b.take k)).length ≤ 1048576 := HS.out.1
      clear hu hv hbm
      generalize b.getD k [] = t at *
      generalize minus a (b.take k) = X at *
      obtain ⟨ax, cx, rfl⟩ := hR.form
      obtain ⟨ap, cp, rfl⟩ := hp.form
      obtain ⟨wo, rfl⟩ : ∃ wo, wo = wr := ⟨wr, rfl⟩
      go_wp2_with fail
      go_loopw [5, 20] (fun lv i wr => ∃ j : Nat, lv = .slice ax X.length cx ∧ j ≤ X.length ∧ i = .int .i64 j ∧ t ∉ X.take j ∧ Bel wo wr) (fun _ i _ => X.length - (intOf i).toNat)
      case atStart => exact ⟨0, rfl, Nat.zero_le _, rfl, by simp, Bel.rfl' _⟩
      case round =>
        obtain ⟨j, rfl, hj, rfl, hn, hb2⟩ := hrel
        by_cases hjl : j < X.length
        · have hR2 := hR.bel hb2
          obtain ⟨gx, az, cz, rfl, hgx, hcell, hz⟩ := hR2.at2 j hjl
          have hzl := HS.out.2 j hjl
          have hz2 := hz.below (hb1.step hb2)
          have HN := Lib.hid (And.intro (fun h => erase_at (t := t) hjl hn h) (fun h => not_take (t := t) hjl hn h))
          have HR := Lib.hid (And.intro hR2 (hb1.step hb2))
          have hp2 := hp.below hb2
          clear hn hR hR2 hz hp hc
          generalize X.getD j [] = y at *
          by_cases he : y = t
          · have HE := Lib.hid (fun (w' : World) (hq : Bel wr w') => slEqual_v _ _ _ _ _ _ t y true w' (by simpa using he.symm) hpm hzl (hp2.below hq) (hz2.below hq))
            have E := Lib.hid (HN.out.1 he)
            clear HN he
            go_wp2_with fail
            refine (HE.out _ (Bel.rfl' _)).mono ?_; rintro e w3 ⟨rfl, hb3⟩
            go_wp2_with fail
            refine (deleteS_c w w3 _ _ _ j X hjl hxl (HR.out.2.step hb3) (HR.out.1.bel hb3)).mono ?_; rintro e w4 ⟨g4, n4, c4, rfl, hR4, hb4⟩
            go_wp2_with fail
            go_roundw
            case rel => exact ⟨k+1, by omega, by go_num, by rw [HM.out, E.out]; exact hR4, hb4⟩
            case measure => simp [intOf]; omega
          · have HE := Lib.hid (fun (w' : World) (hq : Bel wr w') => slEqual_v _ _ _ _ _ _ t y false w' (by simpa using fun h => he h.symm) hpm hzl (hp2.below hq) (hz2.below hq))
            have E := Lib.hid (HN.out.2 he)
            clear HN he
            go_wp2_with fail
            refine (HE.out _ (Bel.rfl' _)).mono ?_; rintro e w3 ⟨rfl, hb3⟩
            go_wp2_with fail
            go_roundw
            case rel => exact ⟨j+1, rfl, by omega, by go_num, E.out, hb2.step hb3⟩
            case measure => simp [intOf]; omega
        · have E := Lib.hid (erase_none (t := t) hjl hn)
          have hR2 := hR.bel hb2
          clear hn hR
          go_wp2_with fail
          go_roundw
          case rel => exact ⟨k+1, by omega, by go_num, by rw [HM.out, E.out]; exact hR2, hb1.step hb2⟩
          case measure => simp [intOf]; omega
    · rw [List.take_of_length_le (by omega)] at hR
      obtain ⟨ax, cx, rfl⟩ := hR.form
      go_wp2_with fail
      go_ret
      exact ⟨_, _, _, rfl, hR, hb1⟩

theorem domFn_c (l h l' h' g : Nat) (x p : Value) (u t : List Int) (q : Bool) (w : World) (he : above u t = q) (hT : Tab w) (hul : u.length ≤ 1048576) (htl : t.length ≤ 1048576) (hlu : lowT u) (hlt : lowT t) (hc : w.cell? ⟨g, 0, none⟩ = some p) (hx : SlI l h w x u) (hp : SlI l' h' w p t) :
    Calls Tryz.prog 147 #[x, .pointer (some ⟨g, 0, none⟩)] w (RetV w (.bool q)) := by
  obtain ⟨ax, cx, rfl⟩ := hx.form
  obtain ⟨ap, cp, rfl⟩ := hp.form
  go_enter Tryz.func147, Tryz.ntmps147
  go_wp2_with fail
  refine (isAbove_v l h l' h' _ _ u t q w he hT hul htl hlu hlt hx hp).mono ?_; rintro e w1 ⟨rfl, hb1⟩
  go_wp2_with fail
  go_ret
  exact ⟨rfl, hb1⟩

def RetIx (w : World) (q : Bool) (e : Ending) (w' : World) : Prop := ∃ x : Int, e = .returned (.int .i64 x) ∧ decide (0 ≤ x) = q ∧ Bel w w'
set_option maxRecDepth 100000 in
set_option maxHeartbeats 400000 in
theorem indexFn_c (l h l' h' g : Nat) (v p : Value) (a : List (List Int)) (t : List Int) (w : World) (hT : Tab w) (ha : short a) (hla : lowL a) (htl : t.length ≤ 1048576) (hlt : lowT t) (hc : w.cell? ⟨g, 0, none⟩ = some p) (hp : SlI l' h' w p t) (hv : SlS l h w v a) :
    Calls Tryz.prog 160 #[v, .func (.func 147) #[] #[.pointer (some ⟨g, 0, none⟩)]] w (RetIx w (a.any fun u => above u t)) := by
  have eg : ∀ args w, (callFunc 147 args).run Tryz.prog w = .ok (.enter 147 args) w := enters_of Tryz.func147 (by kernel_rfl) rfl
  obtain ⟨ad, cap, rfl⟩ := hv.form
  obtain ⟨hal, ham⟩ := ha
  have hgl := World.block_lt_of_cell? w ⟨g, 0, none⟩ hc
  go_enter Tryz.func160, Tryz.ntmps160
  go_wp2_with fail
  go_loopw [8] (fun i wr => ∃ k : Nat, k ≤ a.length ∧ i = .int .i64 k ∧ ((a.take k).any fun u => above u t) = false ∧ Bel w wr) (fun i _ => a.length - (intOf i).toNat)
  case atStart => exact ⟨0, Nat.zero_le _, rfl, rfl, Bel.rfl' _⟩
  case round =>
    obtain ⟨k, hk, rfl, hn, hb⟩ := hrel
    by_cases hkl : k < a.length
    · obtain ⟨bb, off, z, rfl, -, hcell, hz⟩ := hv.at hb k hkl
      have hzl := ham k hkl
      have hzlow := hla k hkl
      have hc2 := hb.at hgl hc
      have HN := Lib.hid (And.intro (any_take (t := t) hkl hn) (fun h => any_yes (t := t) hkl h))
      clear hn hv ham hla
      generalize a.getD k [] = y at *
      obtain ⟨az, cz, rfl⟩ := hz.form
      cases hab : above y t with
      | true =>
        have HD := Lib.hid (domFn_c _ _ _ _ g _ p y t true wr hab (hT.bel hb) hzl htl hzlow hlt hc2 hz (hp.below hb))
        have E := Lib.hid (HN.out.2 hab)
        clear HN hab
        go_wp2_with (go_at_fn 147; refine HD.out.mono ?_; rintro e w2 ⟨rfl, hb2⟩)
        go_ret
        exact ⟨_, rfl, by rw [E.out]; simp, hb.step hb2⟩
      | false =>
        have HD := Lib.hid (domFn_c _ _ _ _ g _ p y t false wr hab (hT.bel hb) hzl htl hzlow hlt hc2 hz (hp.below hb))
        have E := Lib.hid (HN.out.1.trans hab)
        clear HN hab
        go_wp2_with (go_at_fn 147; refine HD.out.mono ?_; rintro e w2 ⟨rfl, hb2⟩)
        go_roundw
        case rel => exact ⟨k+1, by omega, by go_num, E.out, hb.step hb2⟩
        case measure => simp [intOf]; omega
    · have E := Lib.hid (any_end (t := t) hkl hn)
      clear hn
      go_wp2_with fail
      go_ret
      exact ⟨_, rfl, by rw [E.out]; rfl, hb⟩
theorem containsFn_c (l h l' h' g : Nat) (v p : Value) (a : List (List Int)) (t : List Int) (q : Bool) (w : World) (he : (a.any fun u => above u t) = q) (hT : Tab w) (ha : short a) (hla : lowL a) (htl : t.length ≤ 1048576) (hlt : lowT t) (hc : w.cell? ⟨g, 0, none⟩ = some p) (hp : SlI l' h' w p t) (hv : SlS l h w v a) :
    Calls Tryz.prog 148 #[v, .func (.func 147) #[] #[.pointer (some ⟨g, 0, none⟩)]] w (RetV w (.bool q)) := by
  have HI := Lib.hid (indexFn_c l h l' h' g v p a t w hT ha hla htl hlt hc hp hv)
  rw [he] at HI
  obtain ⟨ad, cap, rfl⟩ := hv.form
  clear he
  go_enter Tryz.func148, Tryz.ntmps148
  go_wp2_with fail
  refine HI.out.mono ?_; rintro e w1 ⟨x, rfl, hx, hb1⟩
  go_wp2_with fail
  go_ret
  subst hx
  exact ⟨rfl, hb1⟩

set_option maxRecDepth 100000 in
set_option maxHeartbeats 400000 in
theorem dominates_v (l h l' h' : Nat) (v u : Value) (a b : List (List Int)) (q : Bool) (w : World) (hd : dom a b = q) (hT : Tab w) (ha : short a) (hla : lowL a) (hb : short b) (hlb : lowL b) (hv : SlS l h w v a) (hu : SlS l' h' w u b) :
    Calls Tryz.prog 125 #[v, u] w (RetV w (.bool q)) := by
  have hmf : ∀ (fn : Fn) (first cap : Array Value) (w : World), (Instr.makeFunc fn first cap).run Tryz.prog w = .ok (.func fn first cap) w := fun _ _ _ _ => rfl
  obtain ⟨ad, cap, rfl⟩ := hv.form
  obtain ⟨ad', cap', rfl⟩ := hu.form
  obtain ⟨hbl, hbm⟩ := hb
  have HD := Lib.hid hd
  clear hd
  go_enter Tryz.func125, Tryz.ntmps125
  go_wp2_with fail
  go_loopw [10] (fun i wr => ∃ k : Nat, k ≤ b.length ∧ i = .int .i64 k ∧ dom a (b.take k) = true ∧ Bel w wr) (fun i _ => b.length - (intOf i).toNat)
  case atStart => exact ⟨0, Nat.zero_le _, rfl, rfl, Bel.rfl' _⟩
  case round =>
    obtain ⟨k, hk, rfl, hn, hb1⟩ := hrel
    by_cases hlt : k < b.length
    · obtain ⟨bb, off, p, rfl, -, hc, hp⟩ := hu.at hb1 k hlt
      have hpl := hbm k hlt
      have hplow := hlb k hlt
      have HN := Lib.hid (And.intro (fun h => dom_no (a := a) hlt h) (fun h => dom_take hlt hn h))
      have hv1 := hv.below hb1
      have hT1 := hT.bel hb1
      clear hn hu hbm hlb hv
      generalize b.getD k [] = t at *
      obtain ⟨ap, cp, rfl⟩ := hp.form
      have hs := Bel.alloc0 wr (.cells #[.slice ap t.length cp] 22)
      have hcc : (wr.alloc (.cells #[.slice ap t.length cp] 22)).cell? ⟨wr.heap.size, 0, none⟩ = some (.slice ap t.length cp) := by rw [World.cell?_alloc_new wr]; rfl
      generalize hq : (a.any fun u => above u t) = r
      have HC := Lib.hid (fun (w' : World) (hq2 : Bel wr w') (hc2 : w'.cell? ⟨wr.heap.size, 0, none⟩ = some (.slice ap t.length cp)) => containsFn_c _ _ _ _ wr.heap.size _ _ a t r w' hq (hT1.bel hq2) ha hla hpl hplow hc2 (hp.below hq2) (hv1.below hq2))
      have HB := Lib.hid hb1
      cases r with
      | false =>
        have E : Hid (q = false) := HD.out.symm.trans (HN.out.1 hq)
        clear hq HN hv1 hp
        go_wp2_with fail
        refine (HC.out _ hs hcc).mono ?_; rintro e w2 ⟨rfl, hb2⟩
        go_wp2_with fail
        go_ret
        exact ⟨by rw [E.out]; rfl, HB.out.step (hs.step hb2)⟩
      | true =>
        have E := Lib.hid (HN.out.2 hq)
        clear hq HN hv1 hp
        go_wp2_with fail
        refine (HC.out _ hs hcc).mono ?_; rintro e w2 ⟨rfl, hb2⟩
        go_wp2_with fail
        go_roundw
        case rel => exact ⟨k+1, by omega, by go_num, E.out, HB.out.step (hs.step hb2)⟩
        case measure => simp [intOf]; omega
    · have E : Hid (q = true) := HD.out.symm.trans (dom_all hlt hn)
      clear hn
      go_wp2_with fail
      go_ret
      exact ⟨by rw [E.out]; rfl, hb1⟩
end Go.Proofs.YteegjnobmbcjiaaGreatDoor
end
