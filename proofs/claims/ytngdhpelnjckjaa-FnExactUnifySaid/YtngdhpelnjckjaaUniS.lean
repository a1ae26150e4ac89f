/- Unify: the reference's. -/
import Derived.Test.YtngdhpelnjckjaaUniS1
namespace Go.Proofs.Ytngdhpelnjckjaa
open Go.RowKit Go.Maps

def SRel (ar a b : List Int) (R : Option (Nat → List Int)) (base : Nat) (w0 : World) (k : Nat) (fv p q : Value) (wr : World) : Prop :=
  ∃ (xs ys : List Int) (F : Nat → List Int) (g : Nat), fv = .slice (some ⟨g, 0, none⟩) 12 12 ∧ OwnS base wr.heap.size wr fv (rawL F) ∧ (∃ lo hi, SlI lo hi wr p xs) ∧ (∃ lo hi, SlI lo hi wr q ys) ∧ Bel w0 wr ∧ xs.length ≤ 1600 ∧ ys.length ≤ 1600 ∧ (∀ v, (F v).length ≤ 1600) ∧
    ((k + cnt F 12 = 13 ∧ UInv ar a b xs ys F ∧ R = uniGo ar k xs ys F) ∨ (k = 0 ∧ R = none ∧ sizesOk ar (rawL F) xs ys = false))
theorem short_raw {F : Nat → List Int} (h : ∀ v, (F v).length ≤ 1600) : short (rawL F) := by
  refine ⟨by rw [rawL_len]; omega, fun j hj => ?_⟩
  rw [rawL_len] at hj
  rw [rawL_get F j hj]
  have := h j
  omega
theorem lensW_raw {F : Nat → List Int} (h : ∀ v, (F v).length ≤ 1600) : lensW (rawL F) := by
  intro j hj
  rw [rawL_len] at hj
  rw [rawL_get F j hj]
  exact h j
theorem UInv.okF {ar a0 b0 x y : List Int} {F : Nat → List Int} (h : UInv ar a0 b0 x y F) (v : Nat) (hv : F v ≠ []) : okTerm ar (F v) = true := okTerm_seq.2 ⟨h.len40 v, h.seq v hv⟩
theorem UInv.sizes {ar a0 b0 x y : List Int} {F : Nat → List Int} (h : UInv ar a0 b0 x y F) : sizesOk ar (rawL F) x y = true := by
  unfold sizesOk
  rw [h.okx, h.oky, Bool.and_true, Bool.and_true, List.all_eq_true]
  intro t ht
  unfold rawL at ht
  obtain ⟨v, -, rfl⟩ := List.mem_map.1 ht
  unfold okEmpty
  by_cases e : F v = []
  · rw [e]; rfl
  · rw [h.okF v e, Bool.or_true]
theorem UInv.lowF {ar a0 b0 x y : List Int} {F : Nat → List Int} (h : UInv ar a0 b0 x y F) (v i : Nat) (hi : i < (F v).length) : -12 ≤ (F v).getD i 0 := by
  by_cases e : F v = []
  · rw [e] at hi; simp at hi
  · exact okTerm_low (h.okF v e) i hi
theorem sym_rng {ar t : List Int} (hg : goodSign ar = true) (h : okTerm ar t = true) {i : Nat} (hi : i < t.length) : -12 ≤ t.getD i 0 ∧ t.getD i 0 ≤ 10 := by
  have h1 := good_sym ar t h i hi
  have h2 := sign_len ar hg
  have h3 := okTerm_low h i hi
  generalize t.getD i 0 = z at *
  unfold okSym inB at h1
  simp at h1
  omega
def ansR : Option (Nat → List Int) → List (List Int)
  | none => []
  | some F => substL F
theorem srel_next {ar a b xs ys : List Int} {R : Option (Nat → List Int)} {base k : Nat} {w0 wr : World} {F : Nat → List Int} {fv p q : Value} (hU : UInv ar a b xs ys F) (hne : xs ≠ ys) (hbad : ¬ badU ar xs ys) (hcnt : k + 1 + cnt F 12 = 13) (hRk : R = uniGo ar (k+1) xs ys F)
    (hf : ∃ g, fv = .slice (some ⟨g, 0, none⟩) 12 12) (hO : OwnS base wr.heap.size wr fv (rawL (nextF (lowN xs ys) (putU ar xs ys) F))) (hp : ∃ lo hi, SlI lo hi wr p (appT (rawL (nextF (lowN xs ys) (putU ar xs ys) F)) a)) (hq : ∃ lo hi, SlI lo hi wr q (appT (rawL (nextF (lowN xs ys) (putU ar xs ys) F)) b)) (hb : Bel w0 wr) :
    ∃ j, j < k + 1 ∧ SRel ar a b R base w0 j fv p q wr := by
  have hok := uok hU hne hbad
  obtain ⟨g, rfl⟩ := hf
  rw [← hok.ax] at hp
  rw [← hok.ay] at hq
  by_cases hl : longU ar xs ys
  · refine ⟨0, Nat.succ_pos _, _, _, _, g, rfl, hO, hp, hq, hb, hok.lx, hok.ly, hok.lF, .inr ⟨rfl, by rw [hRk, ug_long hne hbad hl], ?_⟩⟩
    unfold sizesOk
    unfold longU at hl
    rcases hl with h | h
    · rw [okTerm_long h, Bool.and_false, Bool.false_and]
    · rw [okTerm_long h, Bool.and_false]
  · exact ⟨k, Nat.lt_succ_self _, _, _, _, g, rfl, hO, hp, hq, hb, hok.lx, hok.ly, hok.lF, .inl ⟨by have := hok.more; omega, hok.next hl, by rw [hRk, ug_next hne hbad hl]⟩⟩

set_option maxRecDepth 100000 in
set_option maxHeartbeats 1000000 in
theorem l2Unify_c (l h l1 h1 l2 h2 : Nat) (v x y : Value) (ar a b : List Int) (w : World) (hg : goodSign ar = true) (hoa : okTerm ar a = true) (hob : okTerm ar b = true) (hv : SlI l h w v ar) (hx : SlI l1 h1 w x a) (hy : SlI l2 h2 w y b) :
    Calls Try.prog 122 #[.agg #[v], x, y] w (RetSSB w (ansR (uniR ar a b)) (uniR ar a b).isSome) := by
  have hU0 := UInv.start hoa hob
  have ha40 := (okTerm_seq.1 hoa).1
  have hb40 := (okTerm_seq.1 hob).1
  have hlowa := okTerm_low hoa
  have hlowb := okTerm_low hob
  have hR0 : uniR ar a b = uniGo ar 13 a b (fun _ => []) := rfl
  generalize hR : uniR ar a b = R at *
  clear hR
  have hmk := made12
  go_enter Try.func122, Try.ntmps122
  go_wp2_with fail
  refine (l1Own_r _ _ _ a _ (by omega) ((hx.alloc (.cells #[v] 26)).alloc _)).mono ?_; rintro e w1 ⟨ax, nx, cx, rfl, hX, hb1⟩
  go_wp2_with fail
  refine (l1Own_r _ _ _ b _ (by omega) (((hy.alloc (.cells #[v] 26)).alloc _).below hb1)).mono ?_; rintro e w2 ⟨ay, ny, cy, rfl, hY, hb2⟩
  have hnx := row_len hX
  have hny := row_len hY
  subst hnx hny
  have hb12 := hb1.step hb2
  have hB0 : Bel (w.alloc (.cells #[v] 26)) w2 := (Bel.alloc0 (w.alloc (.cells #[v] 26)) (.cells (madeCells #[.slice none 0 0] 12) 24)).step hb12
  have hA0 := arr12 (w := w.alloc (.cells #[v] 26)) (base := w.heap.size) (B := w.heap.size + 1) (by simp) (by simp) hb12
  have hS0 : OwnS w.heap.size w2.heap.size w2 (.slice (some ⟨w.heap.size + 1, 0, none⟩) 12 12) (rawL fun _ => []) := OwnS.of_tag hA0.2.1 hA0.2.2 (by omega)
  have hX0 := (OwnI.of_row hX).sl.below hb2
  have hY0 := (OwnI.of_row hY).sl
  clear hA0 hX hY hb1 hb2 hb12
  go_wp2_with fail
  go_loopw [8, 9, 10] (fun fv p q wr => ∃ k, SRel ar a b R w.heap.size (w.alloc (.cells #[v] 26)) k fv p q wr) (fun fv p q wr => leastOf fun k => SRel ar a b R w.heap.size (w.alloc (.cells #[v] 26)) k fv p q wr)
  case atStart => exact ⟨13, a, b, _, _, rfl, hS0, ⟨_, _, hX0⟩, ⟨_, _, hY0⟩, hB0, by omega, by omega, fun _ => by simp, .inl ⟨by simp [cnt], hU0, hR0⟩⟩
  case round =>
    clear hS0 hX0 hY0 hB0 hU0 hR0
    obtain ⟨k, hSR, hleast⟩ := least_at hrel
    have HL := Lib.hid hleast
    clear hleast hrel
    obtain ⟨xs, ys, F, g, rfl, hO, ⟨lx, hx3, hxs⟩, ⟨ly, hy3, hys⟩, hb, hxl, hyl, hFl, hcase⟩ := hSR
    have hbox := boxc hb 0 _ rfl
    obtain ⟨xa, xc, rfl⟩ := hxs.form
    obtain ⟨ya, yc, rfl⟩ := hys.form
    have hshort := short_raw hFl
    rcases hcase with ⟨hcnt, hU, hRk⟩ | ⟨rfl, rfl, hso⟩
    · have hso := hU.sizes
      have hc12 := cnt_le F 12
      obtain ⟨k, rfl⟩ : ∃ k', k = k' + 1 := ⟨k - 1, by omega⟩
      go_wp2_with fail
      refine (l2Sizes_v _ _ _ _ _ _ _ _ v _ _ _ ar (rawL F) xs ys true _ hso hg (hv.below hb.of_alloc) hshort hO.sl hxl hxs hyl hys).mono ?_; rintro e w3 ⟨rfl, hb3⟩
      have hbw3 := hb.step hb3
      have hbf := dif_before xs ys
      go_wp2_with fail
      go_loopw [11] (fun i wi => ∃ j : Nat, j ≤ dif xs ys ∧ i = .int .i64 j ∧ Bel wr wi) (fun i _ => dif xs ys - (intOf i).toNat)
      case atStart => exact ⟨0, Nat.zero_le _, rfl, hb3⟩
      case round =>
        clear hb3 hbw3 hbox
        obtain ⟨j, hj, rfl, hbi⟩ := hrel
        have hbw := hb.step hbi
        have hbox := boxc hbw 0 _ rfl
        have hxw := hxs.below hbi
        have hyw := hys.below hbi
        by_cases hlt : j < dif xs ys
        · obtain ⟨hjx, hjy, hje⟩ := hbf j hlt
          obtain ⟨b1, o1, rfl, -, hc1⟩ := hxw.at j hjx
          obtain ⟨b2, o2, rfl, -, hc2⟩ := hyw.at j hjy
          rw [← hje] at hc2
          have hjx2 : (j : Int) < xs.length := by omega
          have hjy2 : (j : Int) < ys.length := by omega
          have hd1 : decide ((j : Int) < xs.length) = true := by simpa using hjx2
          have hd2 : decide ((j : Int) < ys.length) = true := by simpa using hjy2
          have hw49 := IntWalk.i64_in ((j : Int) + 1) (by omega)
          clear hbf hje hU hO hso
          generalize xs.getD j 0 = m at *
          go_wp2_with fail
          go_quiet (fail)
          go_wp2_with fail
          go_roundw
          case rel => exact ⟨j+1, by omega, by go_num, hbi.drewN _⟩
          case measure => simp [intOf]; omega
        · obtain rfl : j = dif xs ys := by omega
          clear hbf
          by_cases hEq : xs = ys
          · subst hEq
            rw [ug_same rfl] at hRk
            subst hRk
            have hraw := hU.raw
            rw [hraw] at hO
            rw [dif_same] at *
            have hd1 : decide ((xs.length : Int) < xs.length) = false := by simp
            clear hU hso
            go_wp2_with fail
            go_quiet (fail)
            go_wp2_with fail
            go_ret2
            exact ⟨_, _, _, rfl, (hO.below (hbi.drewN _)).mono (Nat.le_refl _) (hbi.drewN _).size, (hbw.drewN _).of_alloc⟩
          · obtain ⟨e0, hRo⟩ := uround hU hEq
            have hx40 := (okTerm_seq.1 hU.okx).1
            have hy40 := (okTerm_seq.1 hU.oky).1
            have hoy := hU.oky
            obtain ⟨ey, hey, hdy, heyl⟩ := good_end ar ys hU.oky _ hRo.dy
            have hdx := hRo.dx
            have hdy1 := hRo.dy
            have hne := hRo.ne
            have hen := hRo.en
            have hde := hRo.de
            have heo := hRo.eo
            have hpu := hRo.pu
            have hlo := hRo.low
            have hnr := sym_rng hg hU.okx hRo.dx
            have hmr := sym_rng hg hU.oky hRo.dy
            have hlow : lowN xs ys = if ys.getD (dif xs ys) 0 < xs.getD (dif xs ys) 0 then ys.getD (dif xs ys) 0 else xs.getD (dif xs ys) 0 := rfl
            have hoth : other xs ys = if ys.getD (dif xs ys) 0 < xs.getD (dif xs ys) 0 then xs else ys := rfl
            have hbd : badU ar xs ys ↔ (0 ≤ lowN xs ys ∨ lowN xs ys ∈ putU ar xs ys) := Iff.rfl
            have hub : ¬ badU ar xs ys → (lowN xs ys < 0 ∧ lowN xs ys ∉ putU ar xs ys ∧ (putU ar xs ys).length ≤ 40 ∧ 0 < (putU ar xs ys).length ∧ ∀ v, (nextF (lowN xs ys) (putU ar xs ys) F v).length ≤ 1600) := fun h => have hok := uok hU hEq h; ⟨hok.neg, hok.not, hok.u40, hok.up, hok.lF⟩
            have HN := Lib.hid (fun (fv p q : Value) (wz : World) (hbad : ¬ badU ar xs ys) => srel_next (base := w.heap.size) (w0 := w.alloc (.cells #[v] 26)) (wr := wz) (fv := fv) (p := p) (q := q) hU hEq hbad (by omega) hRk)
            have HBd := Lib.hid (fun (hbad : badU ar xs ys) => show R = none by rw [hRk, ug_bad hEq hbad])
            have hF40 := hU.len40
            have hFlow := hU.lowF
            have hpl : (partOf ys (dif xs ys) ey).length ≤ 40 := by rw [partOf_len _ _ _ heyl]; omega
            have HBi := Lib.hid (fun (fv : Value) (lo hi : Nat) (wz : World) (n : Nat) (u : List Int) (q : Value) (lq hq : Nat) (hn : n < 12) (hfv : SlS lo hi wz fv (rawL F)) (hu40 : u.length ≤ 40) (hup : 0 < u.length) (hqv : SlI lq hq wz q u) => l2Bind_c lo hi lq hq fv q F n u wz hn hfv hF40 hFlow hu40 hup hqv)
            clear hU hRk hRo hF40 hFlow hso
            generalize lowN xs ys = n0 at *
            generalize other xs ys = oo at *
            generalize putU ar xs ys = u at *
            generalize badU ar xs ys = bad at *
            obtain ⟨b1, o1, rfl, -, hc1⟩ := hxw.at _ hdx
            obtain ⟨b2, o2, rfl, -, hc2⟩ := hyw.at _ hdy1
            generalize dif xs ys = d at *
            have hjx2 : (d : Int) < xs.length := by omega
            have hjy2 : (d : Int) < ys.length := by omega
            have hd1 : decide ((d : Int) < xs.length) = true := by simpa using hjx2
            have hd2 : decide ((d : Int) < ys.length) = true := by simpa using hjy2
            have hd3 : ((d : Int) == xs.length) = false := by rw [beq_eq_false_iff_ne]; omega
            generalize xs.getD d 0 = n at *
            generalize ys.getD d 0 = m at *
            have hnm : (n == m) = false := by simpa using hne
            by_cases hn : 0 ≤ n
            · have hdn : decide (0 ≤ n) = true := by simpa using hn
              by_cases hm : 0 ≤ m
              · have hdm : decide (0 ≤ m) = true := by simpa using hm
                have hbad : bad := hbd.2 (.inl (by rw [hlow]; split <;> assumption))
                have hRn := HBd.out hbad
                subst hRn
                go_wp2_with fail
                go_quiet (fail)
                go_wp2_with fail
                go_quiet (fail)
                go_wp2_with fail
                go_ret2
                exact ⟨_, _, _, rfl, OwnS.nil _ _ _, (hbw.drewN _).of_alloc⟩
              · have hdm : decide (0 ≤ m) = false := by simpa using hm
                have hdm2 : decide (m < 0) = true := by simp; omega
                rw [if_pos (by omega)] at hlow hoth
                subst hlow hoth
                have hvn : ((-1 - n0).toNat : Int) = -1 - n0 := by omega
                have hvv : -1 - (-1 - n0) = n0 := by omega
                have hv12 : (-1 - n0).toNat < 12 := by omega
                have hpl2 : (partOf oo d e0).length ≤ 40 := by rw [partOf_len _ _ _ heo]; omega
                have hwa := IntWalk.i64_in (-1 - n) (by omega)
                have hwb := IntWalk.i64_in (-1 - n0) (by omega)
                have hwc := IntWalk.i64_in (-1 - (-1 - n0)) (by omega)
                subst hpu
                have HX := Lib.hid (And.intro hey hen)
                clear hey hen
                go_wp2_with fail
                go_quiet (fail)
                go_wp2_with fail
                go_quiet (fail)
                go_wp2_with fail
                refine (l1Part_r _ _ _ _ v _ ar ys d ey _ hg (by omega) hdy1 HX.out.1 hdy heyl (hv.below (hbw.drewN _).of_alloc) (hys.below (hbi.drewN _))).mono ?_; rintro e w4 ⟨a4, n4, c4, rfl, hP4, hb4⟩
                have hb04 := (hbw.drewN _).step hb4
                have hbox4 := boxc hb04 0 _ rfl
                clear hP4
                go_wp2_with fail
                refine (l1Part_r _ _ _ _ v _ ar oo d e0 _ hg (by omega) hdx HX.out.2 hde heo (hv.below hb04.of_alloc) (hxs.below ((hbi.drewN _).step hb4))).mono ?_; rintro e w5 ⟨a5, n5, c5, rfl, hP5, hb5⟩
                have hb05 := hb04.step hb5
                have hbi5 := ((hbi.drewN _).step hb4).step hb5
                have hn5 := row_len hP5
                subst hn5
                have hu5 := (OwnI.of_row hP5).sl
                by_cases hmu : n0 ∈ partOf oo d e0
                · have hRn := HBd.out (hbd.2 (.inr hmu))
                  subst hRn
                  have hdm3 : decide (n0 ∈ partOf oo d e0) = true := by simpa using hmu
                  go_wp2_with fail
                  refine (l1Has_v _ _ _ (partOf oo d e0) _ true _ hdm3 (by omega) hu5).mono ?_; rintro e w6 ⟨rfl, hb6⟩
                  go_wp2_with fail
                  go_ret2
                  exact ⟨_, _, _, rfl, OwnS.nil _ _ _, (hb05.step hb6).of_alloc⟩
                · have hnb : ¬ bad := fun h => by
                    rcases hbd.1 h with h1 | h1
                    · omega
                    · exact hmu h1
                  obtain ⟨-, -, hu40, hup, hlF⟩ := hub hnb
                  have hdm3 : decide (n0 ∈ partOf oo d e0) = false := by simpa using hmu
                  have HNN := Lib.hid (fun (fv p q : Value) (wz : World) => HN.out fv p q wz hnb)
                  clear hub hbd hmu HN HBd
                  go_wp2_with fail
                  refine (l1Has_v _ _ _ (partOf oo d e0) _ false _ hdm3 (by omega) hu5).mono ?_; rintro e w6 ⟨rfl, hb6⟩
                  have hbi6 := hbi5.step hb6
                  have hb06 := hb05.step hb6
                  have hBind := HBi.out _ _ _ w6 (-1 - n0).toNat (partOf oo d e0) _ _ _ hv12 (hO.sl.below hbi6) hu40 hup (hu5.below hb6)
                  rw [hvn, hvv] at hBind
                  go_wp2_with fail
                  refine hBind.mono ?_; rintro e w7 ⟨g7, rfl, hO7, hb7⟩
                  have hb07 := hb06.step hb7
                  go_wp2_with fail
                  refine (l2Apply_w _ _ _ _ _ _ (rawL (nextF n0 (partOf oo d e0) F)) a _ (rawL_len _) (lensW_raw hlF) ha40 hlowa hO7.sl (hx.below hb07.of_alloc)).mono ?_; rintro e w8 ⟨a8, n8, c8, rfl, hX8, hb8⟩
                  go_wp2_with fail
                  refine (l2Apply_w _ _ _ _ _ _ (rawL (nextF n0 (partOf oo d e0) F)) b _ (rawL_len _) (lensW_raw hlF) hb40 hlowb (hO7.sl.below hb8) (hy.below (hb07.step hb8).of_alloc)).mono ?_; rintro e w9 ⟨a9, n9, c9, rfl, hX9, hb9⟩
                  have hb09 := (hb07.step hb8).step hb9
                  have hzz := hb06.size
                  simp only [World.size_alloc] at hzz
                  obtain ⟨jn, hjn, hSn⟩ := HNN.out (.slice (some ⟨g7, 0, none⟩) 12 12) (.slice a8 n8 c8) (.slice a9 n9 c9) w9 ⟨g7, rfl⟩ ((hO7.below (hb8.step hb9)).mono (by omega) (hb8.step hb9).size) ⟨_, _, hX8.sl.below hb9⟩ ⟨_, _, hX9.sl⟩ hb09
                  go_wp2_with fail
                  exact ⟨⟨jn, hSn⟩, least_lt hSn hjn HL.out⟩
            · have hdn : decide (0 ≤ n) = false := by simpa using hn
              by_cases hm : 0 ≤ m
              · have hdm : decide (0 ≤ m) = true := by simpa using hm
                have hdm2 : decide (m < 0) = false := by simp; omega
                rw [if_neg (by omega)] at hlow hoth
                subst hlow hoth
                have hvn : ((-1 - n0).toNat : Int) = -1 - n0 := by omega
                have hvv : -1 - (-1 - n0) = n0 := by omega
                have hv12 : (-1 - n0).toNat < 12 := by omega
                have hpl2 : (partOf oo d e0).length ≤ 40 := by rw [partOf_len _ _ _ heo]; omega
                have hwb := IntWalk.i64_in (-1 - n0) (by omega)
                have hwc := IntWalk.i64_in (-1 - (-1 - n0)) (by omega)
                subst hpu
                have HX := Lib.hid (And.intro hey hen)
                clear hey hen
                go_wp2_with fail
                go_quiet (fail)
                go_wp2_with fail
                go_quiet (fail)
                go_wp2_with fail
                refine (l1Part_r _ _ _ _ v _ ar oo d e0 _ hg (by omega) hdy1 HX.out.2 hde heo (hv.below (hbw.drewN _).of_alloc) (hys.below (hbi.drewN _))).mono ?_; rintro e w5 ⟨a5, n5, c5, rfl, hP5, hb5⟩
                have hb05 := (hbw.drewN _).step hb5
                have hbi5 := (hbi.drewN _).step hb5
                have hn5 := row_len hP5
                subst hn5
                have hu5 := (OwnI.of_row hP5).sl
                by_cases hmu : n0 ∈ partOf oo d e0
                · have hRn := HBd.out (hbd.2 (.inr hmu))
                  subst hRn
                  have hdm3 : decide (n0 ∈ partOf oo d e0) = true := by simpa using hmu
                  go_wp2_with fail
                  refine (l1Has_v _ _ _ (partOf oo d e0) _ true _ hdm3 (by omega) hu5).mono ?_; rintro e w6 ⟨rfl, hb6⟩
                  go_wp2_with fail
                  go_ret2
                  exact ⟨_, _, _, rfl, OwnS.nil _ _ _, (hb05.step hb6).of_alloc⟩
                · have hnb : ¬ bad := fun h => by
                    rcases hbd.1 h with h1 | h1
                    · omega
                    · exact hmu h1
                  obtain ⟨-, -, hu40, hup, hlF⟩ := hub hnb
                  have hdm3 : decide (n0 ∈ partOf oo d e0) = false := by simpa using hmu
                  have HNN := Lib.hid (fun (fv p q : Value) (wz : World) => HN.out fv p q wz hnb)
                  clear hub hbd hmu HN HBd
                  go_wp2_with fail
                  refine (l1Has_v _ _ _ (partOf oo d e0) _ false _ hdm3 (by omega) hu5).mono ?_; rintro e w6 ⟨rfl, hb6⟩
                  have hbi6 := hbi5.step hb6
                  have hb06 := hb05.step hb6
                  have hBind := HBi.out _ _ _ w6 (-1 - n0).toNat (partOf oo d e0) _ _ _ hv12 (hO.sl.below hbi6) hu40 hup (hu5.below hb6)
                  rw [hvn, hvv] at hBind
                  go_wp2_with fail
                  refine hBind.mono ?_; rintro e w7 ⟨g7, rfl, hO7, hb7⟩
                  have hb07 := hb06.step hb7
                  go_wp2_with fail
                  refine (l2Apply_w _ _ _ _ _ _ (rawL (nextF n0 (partOf oo d e0) F)) a _ (rawL_len _) (lensW_raw hlF) ha40 hlowa hO7.sl (hx.below hb07.of_alloc)).mono ?_; rintro e w8 ⟨a8, n8, c8, rfl, hX8, hb8⟩
                  go_wp2_with fail
                  refine (l2Apply_w _ _ _ _ _ _ (rawL (nextF n0 (partOf oo d e0) F)) b _ (rawL_len _) (lensW_raw hlF) hb40 hlowb (hO7.sl.below hb8) (hy.below (hb07.step hb8).of_alloc)).mono ?_; rintro e w9 ⟨a9, n9, c9, rfl, hX9, hb9⟩
                  have hb09 := (hb07.step hb8).step hb9
                  have hzz := hb06.size
                  simp only [World.size_alloc] at hzz
                  obtain ⟨jn, hjn, hSn⟩ := HNN.out (.slice (some ⟨g7, 0, none⟩) 12 12) (.slice a8 n8 c8) (.slice a9 n9 c9) w9 ⟨g7, rfl⟩ ((hO7.below (hb8.step hb9)).mono (by omega) (hb8.step hb9).size) ⟨_, _, hX8.sl.below hb9⟩ ⟨_, _, hX9.sl⟩ hb09
                  go_wp2_with fail
                  exact ⟨⟨jn, hSn⟩, least_lt hSn hjn HL.out⟩
              · have hdm : decide (0 ≤ m) = false := by simpa using hm
                have hdm2 : decide (m < 0) = true := by simp; omega
                by_cases hmn : m < n
                · have hdq : decide (-1 - n < -1 - m) = true := by simp; omega
                  rw [if_pos (by omega)] at hlow hoth
                  subst hlow hoth
                  have hvn : ((-1 - n0).toNat : Int) = -1 - n0 := by omega
                  have hvv : -1 - (-1 - n0) = n0 := by omega
                  have hv12 : (-1 - n0).toNat < 12 := by omega
                  have hpl2 : (partOf oo d e0).length ≤ 40 := by rw [partOf_len _ _ _ heo]; omega
                  have hwa := IntWalk.i64_in (-1 - n) (by omega)
                  have hwb := IntWalk.i64_in (-1 - n0) (by omega)
                  have hwc := IntWalk.i64_in (-1 - (-1 - n0)) (by omega)
                  subst hpu
                  have HX := Lib.hid (And.intro hey hen)
                  clear hey hen
                  go_wp2_with fail
                  go_quiet (fail)
                  go_wp2_with fail
                  go_quiet (fail)
                  go_wp2_with fail
                  refine (l1Part_r _ _ _ _ v _ ar ys d ey _ hg (by omega) hdy1 HX.out.1 hdy heyl (hv.below (hbw.drewN _).of_alloc) (hys.below (hbi.drewN _))).mono ?_; rintro e w4 ⟨a4, n4, c4, rfl, hP4, hb4⟩
                  have hb04 := (hbw.drewN _).step hb4
                  have hbox4 := boxc hb04 0 _ rfl
                  clear hP4
                  go_wp2_with fail
                  refine (l1Part_r _ _ _ _ v _ ar oo d e0 _ hg (by omega) hdx HX.out.2 hde heo (hv.below hb04.of_alloc) (hxs.below ((hbi.drewN _).step hb4))).mono ?_; rintro e w5 ⟨a5, n5, c5, rfl, hP5, hb5⟩
                  have hb05 := hb04.step hb5
                  have hbi5 := ((hbi.drewN _).step hb4).step hb5
                  have hn5 := row_len hP5
                  subst hn5
                  have hu5 := (OwnI.of_row hP5).sl
                  by_cases hmu : n0 ∈ partOf oo d e0
                  · have hRn := HBd.out (hbd.2 (.inr hmu))
                    subst hRn
                    have hdm3 : decide (n0 ∈ partOf oo d e0) = true := by simpa using hmu
                    go_wp2_with fail
                    refine (l1Has_v _ _ _ (partOf oo d e0) _ true _ hdm3 (by omega) hu5).mono ?_; rintro e w6 ⟨rfl, hb6⟩
                    go_wp2_with fail
                    go_ret2
                    exact ⟨_, _, _, rfl, OwnS.nil _ _ _, (hb05.step hb6).of_alloc⟩
                  · have hnb : ¬ bad := fun h => by
                      rcases hbd.1 h with h1 | h1
                      · omega
                      · exact hmu h1
                    obtain ⟨-, -, hu40, hup, hlF⟩ := hub hnb
                    have hdm3 : decide (n0 ∈ partOf oo d e0) = false := by simpa using hmu
                    have HNN := Lib.hid (fun (fv p q : Value) (wz : World) => HN.out fv p q wz hnb)
                    clear hub hbd hmu HN HBd
                    go_wp2_with fail
                    refine (l1Has_v _ _ _ (partOf oo d e0) _ false _ hdm3 (by omega) hu5).mono ?_; rintro e w6 ⟨rfl, hb6⟩
                    have hbi6 := hbi5.step hb6
                    have hb06 := hb05.step hb6
                    have hBind := HBi.out _ _ _ w6 (-1 - n0).toNat (partOf oo d e0) _ _ _ hv12 (hO.sl.below hbi6) hu40 hup (hu5.below hb6)
                    rw [hvn, hvv] at hBind
                    go_wp2_with fail
                    refine hBind.mono ?_; rintro e w7 ⟨g7, rfl, hO7, hb7⟩
                    have hb07 := hb06.step hb7
                    go_wp2_with fail
                    refine (l2Apply_w _ _ _ _ _ _ (rawL (nextF n0 (partOf oo d e0) F)) a _ (rawL_len _) (lensW_raw hlF) ha40 hlowa hO7.sl (hx.below hb07.of_alloc)).mono ?_; rintro e w8 ⟨a8, n8, c8, rfl, hX8, hb8⟩
                    go_wp2_with fail
                    refine (l2Apply_w _ _ _ _ _ _ (rawL (nextF n0 (partOf oo d e0) F)) b _ (rawL_len _) (lensW_raw hlF) hb40 hlowb (hO7.sl.below hb8) (hy.below (hb07.step hb8).of_alloc)).mono ?_; rintro e w9 ⟨a9, n9, c9, rfl, hX9, hb9⟩
                    have hb09 := (hb07.step hb8).step hb9
                    have hzz := hb06.size
                    simp only [World.size_alloc] at hzz
                    obtain ⟨jn, hjn, hSn⟩ := HNN.out (.slice (some ⟨g7, 0, none⟩) 12 12) (.slice a8 n8 c8) (.slice a9 n9 c9) w9 ⟨g7, rfl⟩ ((hO7.below (hb8.step hb9)).mono (by omega) (hb8.step hb9).size) ⟨_, _, hX8.sl.below hb9⟩ ⟨_, _, hX9.sl⟩ hb09
                    go_wp2_with fail
                    exact ⟨⟨jn, hSn⟩, least_lt hSn hjn HL.out⟩
                · have hdq : decide (-1 - n < -1 - m) = false := by simp; omega
                  have hwm := IntWalk.i64_in (-1 - m) (by omega)
                  rw [if_neg (by omega)] at hlow hoth
                  subst hlow hoth
                  have hvn : ((-1 - n0).toNat : Int) = -1 - n0 := by omega
                  have hvv : -1 - (-1 - n0) = n0 := by omega
                  have hv12 : (-1 - n0).toNat < 12 := by omega
                  have hpl2 : (partOf oo d e0).length ≤ 40 := by rw [partOf_len _ _ _ heo]; omega
                  have hwb := IntWalk.i64_in (-1 - n0) (by omega)
                  have hwc := IntWalk.i64_in (-1 - (-1 - n0)) (by omega)
                  subst hpu
                  have HX := Lib.hid (And.intro hey hen)
                  clear hey hen
                  go_wp2_with fail
                  go_quiet (fail)
                  go_wp2_with fail
                  go_quiet (fail)
                  go_wp2_with fail
                  refine (l1Part_r _ _ _ _ v _ ar oo d e0 _ hg (by omega) hdy1 HX.out.2 hde heo (hv.below (hbw.drewN _).of_alloc) (hys.below (hbi.drewN _))).mono ?_; rintro e w5 ⟨a5, n5, c5, rfl, hP5, hb5⟩
                  have hb05 := (hbw.drewN _).step hb5
                  have hbi5 := (hbi.drewN _).step hb5
                  have hn5 := row_len hP5
                  subst hn5
                  have hu5 := (OwnI.of_row hP5).sl
                  by_cases hmu : n0 ∈ partOf oo d e0
                  · have hRn := HBd.out (hbd.2 (.inr hmu))
                    subst hRn
                    have hdm3 : decide (n0 ∈ partOf oo d e0) = true := by simpa using hmu
                    go_wp2_with fail
                    refine (l1Has_v _ _ _ (partOf oo d e0) _ true _ hdm3 (by omega) hu5).mono ?_; rintro e w6 ⟨rfl, hb6⟩
                    go_wp2_with fail
                    go_ret2
                    exact ⟨_, _, _, rfl, OwnS.nil _ _ _, (hb05.step hb6).of_alloc⟩
                  · have hnb : ¬ bad := fun h => by
                      rcases hbd.1 h with h1 | h1
                      · omega
                      · exact hmu h1
                    obtain ⟨-, -, hu40, hup, hlF⟩ := hub hnb
                    have hdm3 : decide (n0 ∈ partOf oo d e0) = false := by simpa using hmu
                    have HNN := Lib.hid (fun (fv p q : Value) (wz : World) => HN.out fv p q wz hnb)
                    clear hub hbd hmu HN HBd
                    go_wp2_with fail
                    refine (l1Has_v _ _ _ (partOf oo d e0) _ false _ hdm3 (by omega) hu5).mono ?_; rintro e w6 ⟨rfl, hb6⟩
                    have hbi6 := hbi5.step hb6
                    have hb06 := hb05.step hb6
                    have hBind := HBi.out _ _ _ w6 (-1 - n0).toNat (partOf oo d e0) _ _ _ hv12 (hO.sl.below hbi6) hu40 hup (hu5.below hb6)
                    rw [hvn, hvv] at hBind
                    go_wp2_with fail
                    refine hBind.mono ?_; rintro e w7 ⟨g7, rfl, hO7, hb7⟩
                    have hb07 := hb06.step hb7
                    go_wp2_with fail
                    refine (l2Apply_w _ _ _ _ _ _ (rawL (nextF n0 (partOf oo d e0) F)) a _ (rawL_len _) (lensW_raw hlF) ha40 hlowa hO7.sl (hx.below hb07.of_alloc)).mono ?_; rintro e w8 ⟨a8, n8, c8, rfl, hX8, hb8⟩
                    go_wp2_with fail
                    refine (l2Apply_w _ _ _ _ _ _ (rawL (nextF n0 (partOf oo d e0) F)) b _ (rawL_len _) (lensW_raw hlF) hb40 hlowb (hO7.sl.below hb8) (hy.below (hb07.step hb8).of_alloc)).mono ?_; rintro e w9 ⟨a9, n9, c9, rfl, hX9, hb9⟩
                    have hb09 := (hb07.step hb8).step hb9
                    have hzz := hb06.size
                    simp only [World.size_alloc] at hzz
                    obtain ⟨jn, hjn, hSn⟩ := HNN.out (.slice (some ⟨g7, 0, none⟩) 12 12) (.slice a8 n8 c8) (.slice a9 n9 c9) w9 ⟨g7, rfl⟩ ((hO7.below (hb8.step hb9)).mono (by omega) (hb8.step hb9).size) ⟨_, _, hX8.sl.below hb9⟩ ⟨_, _, hX9.sl⟩ hb09
                    go_wp2_with fail
                    exact ⟨⟨jn, hSn⟩, least_lt hSn hjn HL.out⟩
    · go_wp2_with fail
      refine (l2Sizes_v _ _ _ _ _ _ _ _ v _ _ _ ar (rawL F) xs ys false _ hso hg (hv.below hb.of_alloc) hshort hO.sl hxl hxs hyl hys).mono ?_; rintro e w3 ⟨rfl, hb3⟩
      go_wp2_with fail
      go_ret2
      exact ⟨_, _, _, rfl, OwnS.nil _ _ _, (hb.step hb3).of_alloc⟩

set_option maxRecDepth 100000 in
set_option maxHeartbeats 400000 in
theorem sUnify_t {l h l' h' l2 h2 : Nat} {v x y : Value} {ar a b : List Int} {w : World} (ha : ar.length ≤ 1048576) (hv : SlI l h w v ar) (hal : a.length ≤ 1048576) (hx : SlI l' h' w x a) (hbl : b.length ≤ 1048576) (hy : SlI l2 h2 w y b) :
    Calls Try.prog 51 #[.agg #[v], x, y] w (RetSSB w (unifyAns ar a b) (unifyOk ar a b)) := by
  cases hs : goodTerm ar a with
  | false =>
    have h0 : uniOk0 ar a b = false := by simp [uniOk0, hs]
    have E := Lib.hid (unify_no0 h0).1
    have E2 := Lib.hid (unify_no0 h0).2
    have HS := Lib.hid hs; clear hs h0
    go_enter Try.func51, Try.ntmps51
    go_wp2_with fail
    refine (sGoodTerm_v _ _ _ _ _ _ _ _ _ _ HS.out ha hal (hv.alloc _) (hx.alloc _)).mono ?_; rintro e w1 ⟨rfl, hb1⟩
    go_wp2_with fail
    go_ret2
    exact ⟨_, _, _, by rw [E2.out]; rfl, by rw [E.out]; exact OwnS.nil _ _ _, hb1.of_alloc⟩
  | true =>
    obtain ⟨hg, hop⟩ := goodTerm_iff.1 hs
    cases hs2 : okTerm ar b with
    | false =>
      have h0 : uniOk0 ar a b = false := by simp [uniOk0, hs2]
      have E := Lib.hid (unify_no0 h0).1
      have E2 := Lib.hid (unify_no0 h0).2
      have HS := Lib.hid (And.intro hs hs2); clear hs hs2 h0
      go_enter Try.func51, Try.ntmps51
      go_wp2_with fail
      refine (sGoodTerm_v _ _ _ _ _ _ _ _ _ _ HS.out.1 ha hal (hv.alloc _) (hx.alloc _)).mono ?_; rintro e w1 ⟨rfl, hb1⟩
      have hx1 := boxc hb1 0 _ rfl
      go_wp2_with fail
      refine (l1Term_v _ _ _ _ _ _ _ _ _ _ HS.out.2 hg hbl (hv.below hb1.of_alloc) (hy.below hb1.of_alloc)).mono ?_; rintro e w2 ⟨rfl, hb2⟩
      go_wp2_with fail
      go_ret2
      exact ⟨_, _, _, by rw [E2.out]; rfl, by rw [E.out]; exact OwnS.nil _ _ _, (hb1.step hb2).of_alloc⟩
    | true =>
      have h00 : uniOk0 ar a b = true := by simp [uniOk0, hs, hs2]
      have E : Hid (unifyAns ar a b = ansR (uniR ar a b)) := by show _ = _; unfold unifyAns; rw [if_pos h00]; cases uniR ar a b <;> rfl
      have E2 : Hid (unifyOk ar a b = (uniR ar a b).isSome) := by show _ = _; unfold unifyOk; rw [h00, Bool.true_and]
      have HS := Lib.hid (And.intro hs hs2)
      have HO := Lib.hid (And.intro hop hs2)
      clear hs hs2 h00 hop
      go_enter Try.func51, Try.ntmps51
      go_wp2_with fail
      refine (sGoodTerm_v _ _ _ _ _ _ _ _ _ _ HS.out.1 ha hal (hv.alloc _) (hx.alloc _)).mono ?_; rintro e w1 ⟨rfl, hb1⟩
      have hx1 := boxc hb1 0 _ rfl
      go_wp2_with fail
      refine (l1Term_v _ _ _ _ _ _ _ _ _ _ HS.out.2 hg hbl (hv.below hb1.of_alloc) (hy.below hb1.of_alloc)).mono ?_; rintro e w2 ⟨rfl, hb2⟩
      have hb12 := hb1.step hb2
      have hx2 := boxc hb12 0 _ rfl
      go_wp2_with fail
      refine (l2Unify_c _ _ _ _ _ _ v _ _ ar a b _ hg HO.out.1 HO.out.2 (hv.below hb12.of_alloc) (hx.below hb12.of_alloc) (hy.below hb12.of_alloc)).mono ?_; rintro e w3 ⟨ao, no, co, rfl, ho, hb3⟩
      go_wp2_with fail
      go_ret2
      have hz := hb12.size
      simp only [World.size_alloc] at hz
      exact ⟨_, _, _, by rw [E2.out]; rfl, by rw [E.out]; exact ho.mono (by omega) (Nat.le_refl _), (hb12.step hb3).of_alloc⟩
end Go.Proofs.Ytngdhpelnjckjaa
