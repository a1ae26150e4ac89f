/- Texts merged, part 8. -/
import Derived.Deep.OwnRows
import Derived.Test.YtikllmdmifecpaaMgClTexts7
section
/- The draws: a spoilt text. -/
namespace Go.Proofs.Ytikllmdmifecpaa
open Go.RowKit

def RetSP (b n k d m : Nat) (w : World) (e : Ending) (w' : World) : Prop :=
  ∃ (s : ByteArray) (k' : Nat), e = .returned (.string s) ∧ s.size ≤ m ∧ k ≤ k' ∧ k' ≤ k + d ∧ Cur b n k' w' ∧ Chg b (b+1) w w'

set_option maxRecDepth 100000 in
set_option maxHeartbeats 1000000 in
theorem spoilt_c (b n k : Nat) (s wth : ByteArray) (w : World) (hn : n ≤ 1099511627776) (hk : k ≤ 1000000000) (hs : s.size ≤ 100000) (hw0 : 0 < wth.size) (hw : wth.size ≤ 200) (hc : Cur b n k w) :
    Calls Try.prog 117 #[.pointer (some ⟨b, 0, none⟩), .string s, .string wth] w (RetSP b n k 20 (s.size + 2) w) := by
  go_enter Try.func117, Try.ntmps117
  go_wp2_with fail
  refine (pick_c b n k _ 2 _ (by decide) hn (by omega) (by omega) hc).mono ?_; rintro e w1 ⟨x, k1, rfl, hx, hk1, hk2, hc1, hg1⟩
  have hw12 := IntWalk.i64_in (1 + (x : Int)) (by omega)
  go_wp2_with fail
  go_loopw [1, 7] (fun sv i wr => ∃ (j kk : Nat) (t : ByteArray), j ≤ 2 ∧ i = .int .i64 j ∧ sv = .string t ∧ t.size + j ≤ s.size + 2 ∧ k ≤ kk ∧ kk + 6 * j ≤ k + 18 ∧ Cur b n kk wr ∧ Chg b (b+1) w wr) (fun _ i _ => (intOf i).toNat)
  case atStart => exact ⟨1 + x, k1, s, by omega, by go_num, rfl, by omega, by omega, by omega, hc1, hg1⟩
  case round =>
    clear hw12
    obtain ⟨j, kk, t, hj, rfl, rfl, htz, hkk1, hkk2, hcr, hgr⟩ := hrel
    by_cases hj0 : 0 < j
    · have hd1 : decide (0 < (j : Int)) = true := by simpa using hj0
      by_cases ht0 : 0 < t.size
      · have hd2 : decide (0 < (t.size : Int)) = true := by simpa using ht0
        go_wp2_with fail
        refine (pick_c b n kk _ t.size _ (by exact rfl) hn (by omega) (by omega) hcr).mono ?_; rintro e w2 ⟨i, k2, rfl, hi, hk21, hk22, hc2, hg2⟩
        go_wp2_with fail
        refine (pick_c b n k2 _ wth.size _ (by exact rfl) hn (by omega) (by omega) hc2).mono ?_; rintro e w3 ⟨q, k3, rfl, hq, hk31, hk32, hc3, hg3⟩
        have hq7 : q < wth.size := by omega
        have hi7 : i < t.size := by omega
        have hcv := conv1 w3 w3.heap.size ((wth[q].toNat : Nat) : Int) rfl
        have hW1 : (ByteArray.mk #[UInt8.ofNat ((wth[q].toNat : Nat) : Int).toNat]).size = 1 := rfl
        generalize hW : (ByteArray.mk #[UInt8.ofNat ((wth[q].toNat : Nat) : Int).toNat]) = W1 at *
        have hB4 := Bel.alloc0 w3 (.cells #[.int .u8 ((wth[q].toNat : Nat) : Int)] 5)
        have HP := Lib.hid (pick_c b n k3 3 3 _ rfl hn (by omega) (by omega) (hc3.below hB4))
        clear hW
        go_wp2_with fail
        refine HP.out.mono ?_; rintro e w5 ⟨z, k5, rfl, hz, hk51, hk52, hc5, hg5⟩
        have hgA := (((hgr.trans hg2).trans hg3).trans (Chg.of_bel hB4)).trans hg5
        clear hcv hB4 HP hc2 hc3 hg2 hg3 hg5 hcr hgr
        have hir : (i : Int) ≤ t.size := by omega
        have hir2 : (i : Int) + 1 ≤ t.size := by omega
        have he1 : (t.extract 0 i).size = i := by rw [ByteArray.size_extract]; omega
        have he2 : (t.extract i t.size).size = t.size - i := by rw [ByteArray.size_extract]; omega
        have he3 : (t.extract (i+1) t.size).size = t.size - (i+1) := by rw [ByteArray.size_extract]; omega
        have hr1 := fun (w : World) => run_string_add_sum (P := Try.prog) (w := w) (t.extract 0 i) W1 (by omega)
        have hr2 := fun (w : World) => run_string_add_sum (P := Try.prog) (w := w) (t.extract 0 i ++ W1) (t.extract i t.size) (by rw [ByteArray.size_append]; omega)
        have hr3 := fun (w : World) => run_string_add_sum (P := Try.prog) (w := w) (t.extract 0 i ++ W1) (t.extract (i+1) t.size) (by rw [ByteArray.size_append]; omega)
        have hr4 := fun (w : World) => run_string_add_sum (P := Try.prog) (w := w) (t.extract 0 i) (t.extract (i+1) t.size) (by omega)
        have HWi := Lib.hid (IntWalk.i64_in ((i : Int) + 1) (by omega))
        have HWj := Lib.hid (IntWalk.i64_in ((j : Int) - 1) (by omega))
        generalize hzz : (z : Int) = zz
        have hz0 : 0 ≤ zz := by omega
        clear hzz hz
        have hcase : zz = 0 ∨ zz = 1 ∨ 1 < zz := by omega
        rcases hcase with rfl | rfl | hz2
        · go_wp2_with fail
          go_quiet (fail)
          have hwj := HWj.out
          go_wp2_with fail
          clear hwj
          have hcd := hc5.below ((Bel.rfl' w5).drewN nq)
          have hgd := hgA.trans (Chg.of_bel (lo := b) (hi := b+1) ((Bel.rfl' w5).drewN nq))
          exact ⟨⟨j - 1, k5, t.extract 0 i ++ W1 ++ t.extract i t.size, by omega, by go_num, rfl, by rw [ByteArray.size_append, ByteArray.size_append]; omega, by omega, by omega, hcd, hgd⟩, by simp [intOf]; omega⟩
        · have hit : ((i : Int) + 1).toNat = i + 1 := by omega
          have hi0 : 0 ≤ (i : Int) + 1 := by omega
          have hwi := HWi.out
          go_wp2_with fail
          go_quiet (fail)
          clear hwi
          have hwj := HWj.out
          go_wp2_with fail
          clear hwj
          have hcd := hc5.below ((Bel.rfl' w5).drewN nq)
          have hgd := hgA.trans (Chg.of_bel (lo := b) (hi := b+1) ((Bel.rfl' w5).drewN nq))
          exact ⟨⟨j - 1, k5, t.extract 0 i ++ W1 ++ t.extract (i+1) t.size, by omega, by go_num, rfl, by rw [ByteArray.size_append, ByteArray.size_append]; omega, by omega, by omega, hcd, hgd⟩, by simp [intOf]; omega⟩
        · have hit : ((i : Int) + 1).toNat = i + 1 := by omega
          have hi0 : 0 ≤ (i : Int) + 1 := by omega
          have e0 : (zz == 0) = false := by rw [beq_eq_false_iff_ne]; omega
          have e1 : (zz == 1) = false := by rw [beq_eq_false_iff_ne]; omega
          have hwi := HWi.out
          go_wp2_with fail
          go_quiet (fail)
          clear hwi
          have hwj := HWj.out
          go_wp2_with fail
          clear hwj
          have hcd := hc5.below ((Bel.rfl' w5).drewN nq)
          have hgd := hgA.trans (Chg.of_bel (lo := b) (hi := b+1) ((Bel.rfl' w5).drewN nq))
          exact ⟨⟨j - 1, k5, t.extract 0 i ++ t.extract (i+1) t.size, by omega, by go_num, rfl, by rw [ByteArray.size_append]; omega, by omega, by omega, hcd, hgd⟩, by simp [intOf]; omega⟩
      · have hd2 : decide (0 < (t.size : Int)) = false := by simpa using ht0
        go_wp2_with fail
        go_ret
        exact ⟨t, kk, rfl, by omega, by omega, by omega, hcr, hgr⟩
    · have hd1 : decide (0 < (j : Int)) = false := by simpa using hj0
      go_wp2_with fail
      go_ret
      exact ⟨t, kk, rfl, by omega, by omega, by omega, hcr, hgr⟩
end Go.Proofs.Ytikllmdmifecpaa
end
section
/- Match: the reference's. -/
namespace Go.Proofs.Ytikllmdmifecpaa
open Go.RowKit Go.Maps

/-- The first k have been taken back where they bind a variable to itself. -/
def mixF (F : Nat → List Int) (k : Nat) : Nat → List Int := fun v => if v < k then stayF F v else F v
theorem mixF_zero (F : Nat → List Int) : mixF F 0 = F := by funext v; simp [mixF]
theorem mixF_succ (F : Nat → List Int) (k : Nat) : upd (mixF F k) k (stayF F k) = mixF F (k+1) := by
  funext v
  unfold upd mixF
  by_cases e : v = k
  · subst e; simp
  · by_cases h : v < k
    · rw [if_neg e, if_pos h, if_pos (by omega)]
    · rw [if_neg e, if_neg h, if_neg (by omega)]
theorem mixF_at (F : Nat → List Int) (k : Nat) : mixF F k k = F k := by simp [mixF]
theorem rawL_mix (F : Nat → List Int) : rawL (mixF F 12) = substL F := by
  unfold rawL substL
  apply List.map_congr_left
  intro v hv
  rw [List.mem_range] at hv
  simp [mixF, hv]
theorem made12 (w : World) : (Instr.makeSlice 26 (.int .i64 12) (.int .i64 12)).run Try.prog w = .ok (.slice (some ⟨w.heap.size, 0, none⟩) 12 12) (w.alloc (.cells (madeCells #[.slice none 0 0] 12) 22)) :=
  Go.run_make_row' 26 22 (.slice none 0 0) 24 Try.underlying26 Try.info22 rfl .i64 .i64 12 (by omega) (by omega) w
theorem rep12 (w : World) : (w.alloc (.cells (madeCells #[.slice none 0 0] 12) 22)).ownsRow w.heap.size 22 1 (.slice (some ⟨w.heap.size, 0, none⟩) 12 12) 12 (List.replicate 12 (Value.slice none 0 0)) := by
  have h := World.ownsRow_lit (e := 22) (base := w.heap.size) (size := 1) w (madeCells #[.slice none 0 0] 12) 12 (Nat.le_refl _) (by unfold maxLen; omega) (by rw [← Array.length_toList, toList_madeCells_one]; simp)
  rw [toList_madeCells_one] at h
  exact h
theorem arr12 {w w' : World} {base B : Nat} (hb : base ≤ w.heap.size) (hB : B = w.heap.size) (hw : Bel (w.alloc (.cells (madeCells #[.slice none 0 0] 12) 22)) w') :
    Arr base B (fun _ => 2) w' (List.replicate 12 (Value.slice none 0 0)) (fun _ => []) := by
  subst hB
  exact Arr.fresh ((show OwnT base (fun _ => 2) 2 22 (w.alloc (.cells (madeCells #[.slice none 0 0] 12) 22)) (.slice (some ⟨w.heap.size, 0, none⟩) 12 12) (List.replicate 12 (Value.slice none 0 0)) from ⟨by simpa using row_mono (rep12 w) hb, fun _ _ => rfl⟩).bel hw)

set_option maxRecDepth 100000 in
set_option maxHeartbeats 1000000 in
theorem sMatch_t {l h l' h' l2 h2 : Nat} {v x y : Value} {ar p t : List Int} {w : World} (ha : ar.length ≤ 1048576) (hv : SlI l h w v ar) (hpl : p.length ≤ 1048576) (hx : SlI l' h' w x p) (htl : t.length ≤ 1048576) (hy : SlI l2 h2 w y t) :
    Calls Try.prog 10 #[.agg #[v], x, y] w (RetSSB w (matchAns ar p t) (matchOk ar p t)) := by
  cases hs : goodTerm ar p with
  | false =>
    have h0 : matchOk0 ar p t = false := by simp [matchOk0, hs]
    have E := Lib.hid (match_no0 h0).1
    have E2 := Lib.hid (match_no0 h0).2
    have HS := Lib.hid hs; clear hs h0
    go_enter Try.func10, Try.ntmps10
    go_wp2_with fail
    refine (sGoodTerm_v _ _ _ _ _ _ _ _ _ _ HS.out ha hpl (hv.alloc _) (hx.alloc _)).mono ?_; rintro e w1 ⟨rfl, hb1⟩
    go_wp2_with fail
    go_ret2
    exact ⟨_, _, _, by rw [E2.out]; rfl, by rw [E.out]; exact OwnS.nil _ _ _, hb1.of_alloc⟩
  | true =>
    obtain ⟨hg, hop⟩ := goodTerm_iff.1 hs
    cases hs2 : okTerm ar t with
    | false =>
      have h0 : matchOk0 ar p t = false := by simp [matchOk0, hs2]
      have E := Lib.hid (match_no0 h0).1
      have E2 := Lib.hid (match_no0 h0).2
      have HS := Lib.hid (And.intro hs hs2); clear hs hs2 h0
      go_enter Try.func10, Try.ntmps10
      go_wp2_with fail
      refine (sGoodTerm_v _ _ _ _ _ _ _ _ _ _ HS.out.1 ha hpl (hv.alloc _) (hx.alloc _)).mono ?_; rintro e w1 ⟨rfl, hb1⟩
      have hx1 := boxc hb1 0 _ rfl
      go_wp2_with fail
      refine (l1Term_v _ _ _ _ _ _ _ _ _ _ HS.out.2 hg htl (hv.below hb1.of_alloc) (hy.below hb1.of_alloc)).mono ?_; rintro e w2 ⟨rfl, hb2⟩
      go_wp2_with fail
      go_ret2
      exact ⟨_, _, _, by rw [E2.out]; rfl, by rw [E.out]; exact OwnS.nil _ _ _, (hb1.step hb2).of_alloc⟩
    | true =>
      have h00 : matchOk0 ar p t = true := by simp [matchOk0, hs, hs2]
      have hot := hs2
      have HS := Lib.hid (And.intro (And.intro hs hs2) h00); clear hs hs2 h00
      have HO := Lib.hid (And.intro hop hot); clear hop hot
      obtain ⟨xa, xc, rfl⟩ := hx.form
      obtain ⟨ya, yc, rfl⟩ := hy.form
      go_enter Try.func10, Try.ntmps10
      go_wp2_with fail
      refine (sGoodTerm_v _ _ _ _ _ _ _ _ _ _ HS.out.1.1 ha hpl (hv.alloc _) (hx.alloc _)).mono ?_; rintro e w1 ⟨rfl, hb1⟩
      have hx1 := boxc hb1 0 _ rfl
      go_wp2_with fail
      refine (l1Term_v _ _ _ _ _ _ _ _ _ _ HS.out.1.2 hg htl (hv.below hb1.of_alloc) (hy.below hb1.of_alloc)).mono ?_; rintro e w2 ⟨rfl, hb2⟩
      have hb12 := hb1.step hb2
      have hx2 := boxc hb12 0 _ rfl
      have hbl2 : w.heap.size < w2.heap.size := by have := hb12.size; simp at this; omega
      have hvw := (hv.below hb12.of_alloc).in'
      have hxw := (hx.below hb12.of_alloc).in'
      have hyw := (hy.below hb12.of_alloc).in'
      have HL := Lib.hid (fun (B : Nat) (w' : World) (hb : Bel w2 w') (hA : Arr w2.heap.size B (fun _ => 2) w' (List.replicate 12 (Value.slice none 0 0)) (fun _ => [])) (hB : w2.heap.size ≤ B) => l2Match_c w2.heap.size B (fun _ => 2) _ v _ _ ar p t w' hB hg HO.out.1 HO.out.2 hA (hvw.below hb) (hxw.below hb) (hyw.below hb))
      clear hv hx hy hb1 hb2 hx1 hvw hxw hyw
      have hmk := made12
      cases hR : matchR ar p t with
      | none =>
        have E := Lib.hid (match_no hR).1
        have E2 := Lib.hid (match_no hR).2
        have HL := Lib.hid (fun (B : Nat) (w' : World) (hb : Bel w2 w') (hA : Arr w2.heap.size B (fun _ => 2) w' (List.replicate 12 (Value.slice none 0 0)) (fun _ => [])) (hB : w2.heap.size ≤ B) => hR ▸ HL.out B w' hb hA hB)
        clear hR
        go_wp2_with fail
        go_region_held3 (fun w' => Bel w2 w' ∧ w'.cell? ⟨w.heap.size, 0, none⟩ = some v)
          (first | exact ⟨Bel.drew0 _, hx2⟩ | exact ⟨Bel.alloc (Bel.drew0 _) _, (Bel.alloc (Bel.drew0 _) _).at hbl2 hx2⟩ | exact ⟨Bel.drew (Bel.alloc0 _ _), (Bel.drew (Bel.alloc0 _ _)).at hbl2 hx2⟩ | exact ⟨hB4, hB4.at hbl2 hx2⟩)
          (first | (go_at_call 72; refine (HL.out w2.heap.size _ (by first | exact Bel.drew (Bel.alloc0 _ _) | exact Bel.alloc (Bel.drew0 _) _) (by first | exact arr12 (Nat.le_refl _) rfl (Bel.rfl' _) | exact arr12 (Nat.le_refl _) rfl (Bel.drew0 _)) (Nat.le_refl _)).mono ?_; rintro e w4 ⟨hch, rfl⟩; have hB4 : Bel w2 w4 := hch.bel (by first | exact Bel.drew (Bel.alloc0 _ _) | exact Bel.alloc (Bel.drew0 _) _) (Nat.le_refl _)))
        go_wp2_with fail
        go_ret2
        exact ⟨_, _, _, by rw [E2.out]; rfl, by rw [E.out]; exact OwnS.nil _ _ _, (hb12.step hB4).of_alloc⟩
      | some F =>
        have E := Lib.hid (match_yes HS.out.2 hR).1
        have E2 := Lib.hid (match_yes HS.out.2 hR).2
        have HL := Lib.hid (fun (B : Nat) (w' : World) (hb : Bel w2 w') (hA : Arr w2.heap.size B (fun _ => 2) w' (List.replicate 12 (Value.slice none 0 0)) (fun _ => [])) (hB : w2.heap.size ≤ B) => hR ▸ HL.out B w' hb hA hB)
        have hF40 := mg_len HO.out.2 p p.length 0 0 (fun _ => []) F (by omega) (by omega) (Pair2.start HO.out.1 HO.out.2) (by simp) (by simpa [matchR] using hR)
        clear hR
        go_wp2_with fail
        go_region_held3 (fun w' => Bel w2 w' ∧ w'.cell? ⟨w.heap.size, 0, none⟩ = some v)
          (first | exact ⟨Bel.drew0 _, hx2⟩ | exact ⟨Bel.alloc (Bel.drew0 _) _, (Bel.alloc (Bel.drew0 _) _).at hbl2 hx2⟩ | exact ⟨Bel.drew (Bel.alloc0 _ _), (Bel.drew (Bel.alloc0 _ _)).at hbl2 hx2⟩ | exact ⟨hB4, hB4.at hbl2 hx2⟩)
          (first | (go_at_call 72; refine (HL.out w2.heap.size _ (by first | exact Bel.drew (Bel.alloc0 _ _) | exact Bel.alloc (Bel.drew0 _) _) (by first | exact arr12 (Nat.le_refl _) rfl (Bel.rfl' _) | exact arr12 (Nat.le_refl _) rfl (Bel.drew0 _)) (Nat.le_refl _)).mono ?_; rintro e w4 ⟨hch, rfl, hArr⟩; have hB4 : Bel w2 w4 := hch.bel (by first | exact Bel.drew (Bel.alloc0 _ _) | exact Bel.alloc (Bel.drew0 _) _) (Nat.le_refl _)))
        obtain ⟨tag4, us4, hA4⟩ := hArr
        go_wp2_with fail
        go_loopw [33] (fun i wr => ∃ (k : Nat) (tag : Nat → Nat) (us : List Value), k ≤ 12 ∧ i = .int .i64 k ∧ Arr w2.heap.size w2.heap.size tag wr us (mixF F k) ∧ w4.heap.size ≤ wr.heap.size ∧ Bel w2 wr) (fun i _ => 12 - (intOf i).toNat)
        case atStart => exact ⟨0, tag4, us4, Nat.zero_le _, rfl, by rw [mixF_zero]; exact hA4, Nat.le_refl _, hB4⟩
        case round =>
          clear hA4
          obtain ⟨k, tag, us, hk, rfl, hA, hsz, hb⟩ := hrel
          by_cases hlt : k < 12
          · obtain ⟨au, cu, hcu, -, hfu, hUr⟩ := hA.cell k hlt
            rw [mixF_at] at hcu hUr
            have hUs := hUr.sl
            have hlt64 : (k : Int) < 12 := by omega
            have hsucc := mixF_succ F k
            have hlB : w2.heap.size < wr.heap.size := hA.2.1.lt rfl
            by_cases hst0 : F k = [-1 - (k : Int)]
            · have hsF : stayF F k = [] := by unfold stayF; rw [if_pos hst0]
              rw [hsF] at hsucc
              have HY := Lib.hid (l2Stay_y _ _ _ (F k) k wr hlt hst0 hUs)
              have HF := Lib.hid (And.intro hsucc hA)
              clear hst0 hsF hsucc hA hUr hUs
              generalize (F k).length = nk at *
              go_wp2_with fail
              refine HY.out.mono ?_; rintro e w6 ⟨rfl, hb6⟩
              have hcu6 := hb6.at hlB hcu
              have hfu6 := (World.frozen?_of_block (w := wr) (w' := w6) (a := ⟨w2.heap.size, k, none⟩) (hb6.block w2.heap.size hlB)).trans hfu
              go_wp2_with fail
              have hst := (HF.out.2.bel hb6).set k hlt (tag' := tag) (x := []) (u := .slice none 0 0) (fun _ _ _ _ h => h) (OwnT.nil _ _ _ _ _)
              rw [HF.out.1] at hst
              go_roundw
              case rel => exact ⟨k+1, tag, _, by omega, by go_num, hst, by have := hb6.size; simp; omega, (hb.step hb6).setCell (p := ⟨w2.heap.size, k, none⟩) (Nat.le_refl _) _⟩
              case measure => simp [intOf]; omega
            · have hsF : stayF F k = F k := by unfold stayF; rw [if_neg hst0]
              rw [hsF] at hsucc
              have HY := Lib.hid (l2Stay_n _ _ _ (F k) k wr hlt hst0 hUs)
              have HF := Lib.hid (And.intro hsucc (And.intro hA hUr))
              clear hst0 hsF hsucc hA hUr hUs
              generalize hnk : (F k).length = nk at *
              have HNK := Lib.hid hnk
              clear hnk
              go_wp2_with fail
              refine HY.out.mono ?_; rintro e w6 ⟨rfl, hb6⟩
              have hcu6 := hb6.at hlB hcu
              have hfu6 := (World.frozen?_of_block (w := wr) (w' := w6) (a := ⟨w2.heap.size, k, none⟩) (hb6.block w2.heap.size hlB)).trans hfu
              go_wp2_with fail
              have hst := (HF.out.2.1.bel hb6).set k hlt (tag' := tag) (x := F k) (fun _ _ _ _ h => h) (HF.out.2.2.bel hb6)
              rw [HF.out.1] at hst
              go_roundw
              case rel => exact ⟨k+1, tag, _, by omega, by go_num, hst, by have := hb6.size; simp; omega, (hb.step hb6).setCell (p := ⟨w2.heap.size, k, none⟩) (Nat.le_refl _) _⟩
              case measure => simp [intOf]; omega
          · obtain rfl : k = 12 := by omega
            have hO := hA.2.1
            have hI := hA.2.2
            rw [rawL_mix] at hI
            clear hA
            go_wp2_with fail
            go_ret2
            exact ⟨_, _, _, by rw [E2.out]; rfl, by rw [E.out]; exact (OwnS.of_tag hO hI (by omega)).mono (by omega) (Nat.le_refl _), (hb12.step hb).of_alloc⟩
end Go.Proofs.Ytikllmdmifecpaa
end
section
/- The least number of a loop's relation, as its measure. -/
namespace Go.Proofs.Ytikllmdmifecpaa

theorem least_ex (P : Nat → Prop) : ∀ k, P k → ∃ j, P j ∧ ∀ i, P i → j ≤ i := by
  intro k
  induction k using Nat.strongRecOn with
  | ind k ih =>
    intro h
    rcases Classical.em (∃ i, i < k ∧ P i) with ⟨i, hi, hp⟩ | hn
    · exact ih i hi hp
    · refine ⟨k, h, fun i hp => ?_⟩
      rcases Nat.lt_or_ge i k with h1 | h1
      · exact absurd ⟨i, h1, hp⟩ hn
      · exact h1
noncomputable def leastOf (P : Nat → Prop) : Nat := by
  classical exact if h : ∃ k, P k then Classical.choose (least_ex P h.choose h.choose_spec) else 0
theorem leastOf_spec {P : Nat → Prop} (h : ∃ k, P k) : P (leastOf P) ∧ ∀ i, P i → leastOf P ≤ i := by
  unfold leastOf
  rw [dif_pos h]
  exact Classical.choose_spec (least_ex P h.choose h.choose_spec)
theorem least_at {P : Nat → Prop} (h : ∃ k, P k) : ∃ k, P k ∧ leastOf P = k := ⟨_, (leastOf_spec h).1, rfl⟩
theorem least_lt {P Q : Nat → Prop} {j k : Nat} (hq : Q j) (hj : j < k) (hk : leastOf P = k) : leastOf Q < leastOf P := by
  have := (leastOf_spec ⟨j, hq⟩).2 j hq
  omega
end Go.Proofs.Ytikllmdmifecpaa
end
section
/- The draws: a substitution. -/
namespace Go.Proofs.Ytikllmdmifecpaa
open Go.RowKit Go.Maps

theorem SlS.cut1 {lo hi : Nat} {w : World} {b off n c : Nat} {xss : List (List Int)} (h : SlS lo hi w (.slice (some ⟨b, off, none⟩) n c) xss) (hp : 0 < xss.length) :
    SlS lo hi w (.slice (some ⟨b, off + 1, none⟩) (n - 1) (c - 1)) (xss.drop 1) := by
  obtain ⟨ad, cap, e, hc, hm, hr⟩ := h
  simp only [Value.slice.injEq] at e
  obtain ⟨rfl, rfl, rfl⟩ := e
  have hdl : (xss.drop 1).length = xss.length - 1 := by simp
  refine ⟨some ⟨b, off + 1, none⟩, c - 1, by rw [hdl], by rw [hdl]; omega, ⟨by have := hm.1; omega, fun h => by simp at h⟩, fun hp2 => ?_⟩
  obtain ⟨b', off', e2, a1, a2, a3⟩ := hr hp
  simp only [Option.some.injEq, Addr.mk.injEq, and_true] at e2
  obtain ⟨rfl, rfl⟩ := e2
  refine ⟨b, off + 1, rfl, a1, a2, fun j hj => ?_⟩
  simp at hj
  obtain ⟨u, h1, h2⟩ := a3 (j + 1) (by omega)
  refine ⟨u, by rw [show off + 1 + j = off + (j + 1) by omega]; exact h1, ?_⟩
  rw [show (xss.drop 1).getD j [] = xss.getD (j+1) [] from by simp only [List.getD, List.getElem?_drop]; rw [Nat.add_comm 1 j]]
  exact h2
theorem Arr.cur {base B b : Nat} {tag : Nat → Nat} {w w' : World} {us : List Value} {F : Nat → List Int} (h : Arr base B tag w us F) (hb : b < base) (k : Chg b (b+1) w w') : Arr base B tag w' us F :=
  h.all fun _ _ _ _ ho => ho.chgMap hb k
theorem tag_newC {base tag e w w1 v xs b} (t : Nat) (hown : w1.ownsRow w.heap.size e 1 v xs.length xs) (hb : Chg b (b+1) w w1) (hbb : b < base) (hbase : base ≤ w.heap.size) :
    ∃ tag', OwnT base tag' t e w1 v xs ∧ ∀ t' e' u zs, OwnT base tag t' e' w u zs → OwnT base tag' t' e' w1 u zs := by
  refine ⟨fun g => if w.heap.size ≤ g then t else tag g, ⟨row_mono hown hbase, fun g hg => ?_⟩, fun t' e' u zs ho => ⟨(ho.chgMap hbb hb).1, fun g hg => ?_⟩⟩
  · have := own_base hown g hg
    simp [this]
  · have := ho.lt hg
    show (if w.heap.size ≤ g then t else tag g) = t'
    rw [if_neg (by omega)]; exact ho.2 g hg
theorem arr_row {base B b : Nat} {tag : Nat → Nat} {w w5 w6 : World} {us : List Value} {F : Nat → List Int} {v : Value} {t : List Int} (h : Arr base B tag w us F) (hbb : b < base) (k5 : Chg b (b+1) w w5) (k6 : Chg b (b+1) w5 w6) (hbase : base ≤ w5.heap.size) (hrow : w6.ownsRow w5.heap.size 3 1 v t.length (t.map (Value.int .i64))) (y : Nat) (hy : y < 12) :
    ∃ tag6, OwnT base tag6 (10 + y) 3 w6 v (t.map (Value.int .i64)) ∧ Arr base B tag6 w6 us F ∧ ∃ a c, w6.cell? ⟨B, y, none⟩ = some (.slice a (F y).length c) ∧ w6.frozen? ⟨B, y, none⟩ = false := by
  obtain ⟨tag6, hX, hT⟩ := tag_newC (tag := tag) (base := base) (t := 10 + y) (xs := t.map (Value.int .i64)) (w := w5) (w1 := w6) (by simpa using hrow) k6 hbb hbase
  have hA := (h.cur hbb k5).all hT
  obtain ⟨a, c, h1, -, h2, -⟩ := hA.cell y hy
  exact ⟨tag6, hX, hA, a, c, h1, h2⟩
/-- A substitution of the draws: lists of new blocks. -/
def RetSD (b n k d : Nat) (w : World) (e : Ending) (w' : World) : Prop :=
  ∃ (ad : Option Addr) (c : Nat) (l : List (List Int)) (k' : Nat), e = .returned (.slice ad l.length c) ∧ SlS w.heap.size w'.heap.size w' (.slice ad l.length c) l ∧ l.length ≤ 12 ∧ (∀ j, (l.getD j []).length ≤ 1000) ∧ k ≤ k' ∧ k' ≤ k + d ∧ Cur b n k' w' ∧ Chg b (b+1) w w'

set_option maxRecDepth 100000 in
set_option maxHeartbeats 1000000 in
theorem subst_d (b n k lo hi : Nat) (v : Value) (ar : List Int) (w : World) (hn : n ≤ 1099511627776) (hk : k ≤ 1000000000) (hdr : drawn ar) (hblo : b < lo) (hhi : hi ≤ w.heap.size) (hc : Cur b n k w) (hv : SlI lo hi w v ar) :
    Calls Try.prog 81 #[.pointer (some ⟨b, 0, none⟩), .agg #[v]] w (RetSD b n k 20000 w) := by
  have hbl := hc.lt
  have hmk := made12
  have hB1 := Bel.alloc0 w (.cells #[v] 29)
  have hs1 : (w.alloc (.cells #[v] 29)).heap.size = w.heap.size + 1 := by simp
  have hbx1 : (w.alloc (.cells #[v] 29)).cell? ⟨w.heap.size, 0, none⟩ = some v := by rw [World.cell?_alloc_new w]; rfl
  have hc1 := hc.below hB1
  have hv1 := hv.below hB1
  have hg1 := Chg.of_bel (lo := b) (hi := b + 1) hB1
  go_enter Try.func81, Try.ntmps81
  go_wp2_with fail
  have hB2 := Bel.alloc0 (w.alloc (.cells #[v] 29)) (.cells (madeCells #[.slice none 0 0] 12) 22)
  have hA2 : Arr (w.heap.size + 1) (w.heap.size + 1) (fun _ => 2) ((w.alloc (.cells #[v] 29)).alloc (.cells (madeCells #[.slice none 0 0] 12) 22)) (List.replicate 12 (Value.slice none 0 0)) (fun _ => []) := arr12 (by simp) (by simp) (Bel.rfl' _)
  have hbx2 := hB2.at (by simp) hbx1
  have hc2 := hc1.below hB2
  have hv2 := hv1.below hB2
  have hg2 := hg1.trans (Chg.of_bel (lo := b) (hi := b + 1) hB2)
  clear hB1 hB2 hbx1 hc1 hv1 hg1
  refine (pick_c b n k 5 5 _ rfl hn (by omega) (by omega) hc2).mono ?_; rintro e w1 ⟨x, k1, rfl, hx, hk1, hk2, hc3, hg3⟩
  have hA3 := hA2.cur (by omega) hg3
  have hbx3 := hg3.cell (by simp; omega) (by omega) hbx2
  have hv3 := hv2.chg hg3 (by omega)
  have hg4 := hg2.trans hg3
  clear hA2 hbx2 hc2 hv2 hg2 hg3
  go_wp2_with fail
  go_loopw [6] (fun i wr => ∃ (j k9 : Nat) (tag : Nat → Nat) (us : List Value) (F : Nat → List Int), j ≤ 4 ∧ i = .int .i64 j ∧ Arr (w.heap.size + 1) (w.heap.size + 1) tag wr us F ∧ (∀ v, (F v).length ≤ 1000) ∧ k ≤ k9 ∧ k9 + 4500 * j ≤ k + 18010 ∧ Cur b n k9 wr ∧ wr.cell? ⟨w.heap.size, 0, none⟩ = some v ∧ SlI lo hi wr v ar ∧ Chg b (b+1) w wr) (fun i _ => (intOf i).toNat)
  case atStart => exact ⟨x, k1, _, _, _, by omega, rfl, hA3, fun _ => by simp, by omega, by omega, hc3, hbx3, hv3, hg4⟩
  case round =>
    clear hA3 hbx3 hc3 hv3 hg4
    obtain ⟨j, k9, tag, us, F, hj, rfl, hA, hF, hk9, hk8, hcr, hbr, hvr, hgr⟩ := hrel
    by_cases hlt : 0 < j
    · have hw13 := IntWalk.i64_in ((j : Int) - 1) (by omega)
      have hszr : w.heap.size + 1 < wr.heap.size := hA.2.1.lt rfl
      have HW13 := Lib.hid (IntWalk.i64_in ((j : Int) - 1) (by omega))
      have HTm := Lib.hid (fun (w5 : World) (q k5 : Nat) (hq : q < 2 + (1 - 2)) (hk5 : k5 ≤ k9 + 4) (hc5 : Cur b n k5 w5) (hg5 : Chg b (b+1) wr w5) => term_z b n (1 + q) 4 k5 lo hi (1 + (q : Int)) 4 v ar w5 (by omega) rfl hn (by omega) (by omega) hdr hblo (by omega) (by omega) hc5 (hvr.chg hg5 (by omega)))
      have HAr := Lib.hid (fun (w5 w6 : World) (y : Nat) (v : Value) (t : List Int) (k5 : Chg b (b+1) wr w5) (k6 : Chg b (b+1) w5 w6) (hrow : w6.ownsRow w5.heap.size 3 1 v t.length (t.map (Value.int .i64))) (hy : y < 12) => arr_row hA (by omega) k5 k6 (by have := k5.size; omega) hrow y hy)
      go_wp2_with fail
      go_region_held3 (fun w' => w'.cell? ⟨w.heap.size, 0, none⟩ = some v)
        (first | exact hbr | exact hb4 | exact hb5 | exact hb6 | exact hb7 | fail)
        (first
          | (go_at_call 128; refine (pick_c b n k9 _ 4 _ (by decide) hn (by omega) (by omega) (hcr.below (Bel.drew0 wr))).mono ?_; rintro e w4 ⟨y, k4, rfl, hy, hk41, hk42, hc4, hg4⟩; have hyl : (y : Int) < 12 := (by omega); replace hg4 := (Chg.of_bel (lo := b) (hi := b+1) (Bel.drew0 wr)).trans hg4; have hb4 := hg4.cell (by omega) (by omega) hbr)
          | (go_at_call 128; refine (pick_c b n k4 _ 2 w4 (by decide) hn (by omega) (by omega) hc4).mono ?_; rintro e w5 ⟨q, k5, rfl, hq, hk51, hk52, hc5, hg5⟩; replace hg5 := hg4.trans hg5; have hb5 := hg5.cell (by omega) (by omega) hbr; have hw21 := IntWalk.i64_in (1 + (q : Int)) (by omega))
          | (go_at_call 129; clear hw21; refine (HTm.out w5 q k5 hq (by omega) hc5 hg5).mono ?_; rintro e w6 ⟨a6, m6, c6, t6, k6, rfl, hrow6, ht1, ht2, -, hk61, hk62, hc6, hg6⟩; have hm6 := row_len hrow6; subst hm6; have hb6 := (hg5.trans hg6).cell (by omega) (by omega) hbr; obtain ⟨tag6, hX6, hA6, au, cu, hcu, hfu⟩ := HAr.out w5 w6 y _ t6 hg5 hg6 hrow6 (by omega); have hb7 := (World.cell?_setCell_other w6 ⟨w.heap.size + 1, y, none⟩ ⟨w.heap.size, 0, none⟩ (.slice a6 t6.length c6) (fun h => (Nat.succ_ne_self w.heap.size) (congrArg Addr.block h))).trans hb6)
          | fail)
      have hstp := hA6.set y (by omega) (fun _ _ _ _ h => h) hX6
      have htl := tl_le (1 + q) (by omega)
      have hF6 : ∀ g, (upd F y t6 g).length ≤ 1000 := fun g => by unfold upd; split; omega; exact hF g
      have hgAll := hg5.trans hg6
      have hset := Chg.set (lo := w.heap.size + 1) (hi := w.heap.size + 2) (p := ⟨w.heap.size + 1, y, none⟩) w6 (by simp) (by simp) (.slice a6 t6.length c6)
      have hcF := hc6.chg hset (by omega)
      have hvF := (hvr.chg hgAll (by omega)).set (p := ⟨w.heap.size + 1, y, none⟩) (.inr (by simp; omega)) (.slice a6 t6.length c6)
      have hgF := (hgr.trans hgAll).news hset (by omega)
      have hw13 := HW13.out
      clear hA hA6 hX6 hrow6 hcu hfu hb4 hb5 hb6 HTm HAr hc4 hc5 hc6 hg4 hg5 hg6
      go_wp2_with fail
      clear hw13
      exact ⟨⟨j - 1, k6, tag6, _, _, by omega, by go_num, hstp, hF6, by omega, by omega, hcF, hb7, hvF, hgF⟩, by simp [intOf]; omega⟩
    · obtain rfl : j = 0 := by omega
      have HA := Lib.hid hA
      clear hA
      go_wp2_with fail
      refine (one_c b n k9 _ 40 _ rfl hn (by omega) (by omega) hcr).mono ?_; rintro e w2 ⟨q, k2, rfl, hk21, hk22, hc2, hg2⟩
      have hA2 := HA.out.cur (by omega) hg2
      have hS2 : SlS (w.heap.size + 1) w2.heap.size w2 (.slice (some ⟨w.heap.size + 1, 0, none⟩) 12 12) (rawL F) := (OwnS.of_tag hA2.2.1 hA2.2.2 (by omega)).sl
      have hrl := rawL_len F
      have hFr : ∀ j, ((rawL F).getD j []).length ≤ 1000 := by
        intro j
        by_cases hj : j < 12
        · rw [rawL_get F j hj]; exact hF j
        · simp [List.getD, List.getElem?_eq_none (show (rawL F).length ≤ j by omega)]
      have hgW := hgr.trans hg2
      cases q with
      | true =>
        go_wp2_with fail
        go_ret
        refine ⟨some ⟨w.heap.size + 1, 1, none⟩, 11, (rawL F).drop 1, k2, by rw [List.length_drop, hrl]; rfl, ?_, by rw [List.length_drop, hrl]; omega, fun j => ?_, by omega, by omega, hc2, hgW⟩
        · have := (hS2.cut1 (by omega)).mono (show w.heap.size ≤ w.heap.size + 1 by omega) (Nat.le_refl _)
          rw [List.length_drop, hrl]
          exact this
        · rw [show ((rawL F).drop 1).getD j [] = (rawL F).getD (j+1) [] from by simp only [List.getD, List.getElem?_drop]; rw [Nat.add_comm 1 j]]
          exact hFr (j+1)
      | false =>
        go_wp2_with fail
        go_ret
        exact ⟨some ⟨w.heap.size + 1, 0, none⟩, 12, rawL F, k2, by rw [hrl]; rfl, by rw [hrl]; exact hS2.mono (by omega) (Nat.le_refl _), by omega, hFr, by omega, by omega, hc2, hgW⟩
end Go.Proofs.Ytikllmdmifecpaa
end
section
/- The draws of chapter 2. -/
namespace Go.Proofs.Ytikllmdmifecpaa
open Go.RowKit

theorem SlS.set {lo hi w v xss} (h : SlS lo hi w v xss) {p : Addr} (hp : p.block < lo ∨ hi ≤ p.block) (u : Value) : SlS lo hi (w.setCell p u) v xss :=
  h.same fun b h1 h2 _ => Below.heap_setCell w p u b (by omega)
def RetDSS (w : World) (e : Ending) (w' : World) : Prop :=
  ∃ (sv lv mv : Value) (ar : List Int) (l m : List (List Int)), e = .returned (.tuple #[.agg #[sv], lv, mv]) ∧ drawn ar ∧ SlI w.heap.size w'.heap.size w' sv ar ∧ SlS w.heap.size w'.heap.size w' lv l ∧ l.length ≤ 12 ∧ (∀ j, (l.getD j []).length ≤ 1000) ∧ SlS w.heap.size w'.heap.size w' mv m ∧ m.length ≤ 12 ∧ (∀ j, (m.getD j []).length ≤ 1000) ∧ Bel w w'
def RetDSI (w : World) (e : Ending) (w' : World) : Prop :=
  ∃ (sv lv tv : Value) (ar : List Int) (l : List (List Int)) (t : List Int), e = .returned (.tuple #[.agg #[sv], lv, tv]) ∧ drawn ar ∧ SlI w.heap.size w'.heap.size w' sv ar ∧ SlS w.heap.size w'.heap.size w' lv l ∧ l.length ≤ 12 ∧ (∀ j, (l.getD j []).length ≤ 1000) ∧ SlI w.heap.size w'.heap.size w' tv t ∧ t.length ≤ 1000 ∧ Bel w w'

set_option maxRecDepth 100000 in
set_option maxHeartbeats 1000000 in
theorem drawCompose_c (n : Nat) (v : Value) (w : World) (hn : n ≤ 1048576) (hv : SlB w.heap.size w v n) :
    Calls Try.prog 26 #[v] w (RetDSS w) := by
  obtain ⟨ad, cap, rfl, hcap, hr⟩ := hv
  have hv : SlB w.heap.size w (.slice ad n cap) n := ⟨ad, cap, rfl, hcap, hr⟩
  have hB1 := Bel.alloc0 w (.cells #[.slice none 0 0] 29)
  have hs1 : (w.alloc (.cells #[.slice none 0 0] 29)).heap.size = w.heap.size + 1 := by simp
  have hC := Cur.new (T := 94) (w := w.alloc (.cells #[.slice none 0 0] 29)) (v := .slice ad n cap) (n := n) (by
    obtain ⟨ad', cap', e, hc, hr'⟩ := hv.chg (Chg.of_bel (lo := w.heap.size) (hi := w.heap.size) hB1) (Nat.le_refl _)
    exact ⟨ad', cap', e, hc, fun hp => by obtain ⟨b, off, e1, e2, e3⟩ := hr' hp; exact ⟨b, off, e1, by omega, e3⟩⟩)
  rw [hs1] at hC
  have hB2 := hB1.step (Bel.alloc0 (w.alloc (.cells #[.slice none 0 0] 29)) (.cells #[.slice ad n cap, .int .i64 0, .int .u64 0] 94))
  have hbx : ((w.alloc (.cells #[.slice none 0 0] 29)).alloc (.cells #[.slice ad n cap, .int .i64 0, .int .u64 0] 94)).cell? ⟨w.heap.size, 0, none⟩ = some (.slice none 0 0) := (Bel.alloc0 _ _).at (by simp) (by rw [World.cell?_alloc_new w]; rfl)
  have hfx : ((w.alloc (.cells #[.slice none 0 0] 29)).alloc (.cells #[.slice ad n cap, .int .i64 0, .int .u64 0] 94)).frozen? ⟨w.heap.size, 0, none⟩ = false := by simp [go_sem]; try rfl
  have HS := Lib.hid (sign_c (w.heap.size + 1) n 0 _ (by omega) (by omega) hC)
  go_enter Try.func26, Try.ntmps26
  go_wp2_with fail
  refine HS.out.mono ?_; rintro e w1 ⟨sv, ar, k1, rfl, hdr, hsv, hk1, hk2, hc1, hg1⟩
  obtain ⟨sa, sc, rfl⟩ := hsv.form
  have hW0 : ((w.alloc (.cells #[.slice none 0 0] 29)).alloc (.cells #[.slice ad n cap, .int .i64 0, .int .u64 0] 94)).heap.size = w.heap.size + 1 + 1 := by simp
  generalize ((w.alloc (.cells #[.slice none 0 0] 29)).alloc (.cells #[.slice ad n cap, .int .i64 0, .int .u64 0] 94)) = W0 at *
  have hsz1 : W0.heap.size ≤ w1.heap.size := hg1.size
  rw [hW0] at hsv
  have hbx1 := hg1.cell (by omega) (by omega) hbx
  have hfx1 : w1.frozen? ⟨w.heap.size, 0, none⟩ = false := (World.frozen?_of_block (w := W0) (w' := w1) (a := ⟨w.heap.size, 0, none⟩) (hg1.block w.heap.size (by omega) (by omega))).trans hfx
  have hB3 := Bel.alloc0 w1 (.cells #[.slice sa ar.length sc] 29)
  have hs2 : (w1.alloc (.cells #[.slice sa ar.length sc] 29)).heap.size = w1.heap.size + 1 := by simp
  have hbx7 : (w1.alloc (.cells #[.slice sa ar.length sc] 29)).cell? ⟨w1.heap.size, 0, none⟩ = some (.slice sa ar.length sc) := by rw [World.cell?_alloc_new w1]; rfl
  have hbx2 := hB3.at (by omega) hbx1
  have hfx2 := (World.frozen?_of_block (w := w1) (a := ⟨w.heap.size, 0, none⟩) (hB3.block w.heap.size (by omega))).trans hfx1
  have hc2 := hc1.below hB3
  have hsv2 := hsv.below hB3
  have hg2 := hg1.trans (Chg.of_bel (lo := w.heap.size + 1) (hi := w.heap.size + 1 + 1) hB3)
  generalize hw2 : w1.alloc (.cells #[.slice sa ar.length sc] 29) = w2 at *
  clear hc1 hg1 hbx1 hfx1 hB3 hsv hbx hfx HS hC hB1
  have hhi0 : w1.heap.size ≤ w2.heap.size := by omega
  go_wp2_with fail
  go_region_held3 (fun w' => w'.cell? ⟨w1.heap.size, 0, none⟩ = some (.slice sa ar.length sc))
    (first | exact hbx7 | exact hx1 | exact hx2 | exact hb7F | fail)
    (first
      | (go_at_call 81; refine (subst_d (w.heap.size + 1) n k1 _ _ _ ar _ (by omega) (by omega) hdr (by omega) (by exact hhi0) (hc2.below (Bel.drew0 w2)) (hsv2.below (Bel.drew0 w2))).mono ?_; rintro e y1_2 ⟨aA, cA, lA, k2x, rfl, hA, hlA, hjA, hk1k2x, hk2k2x, hcr1, hr1⟩; have G1 := (Chg.of_bel (lo := w.heap.size + 1) (hi := w.heap.size + 1 + 1) (Bel.drew0 w2)).trans hr1; have hzr1 : w2.heap.size ≤ y1_2.heap.size := G1.size; have hx1 := G1.cell (by omega) (by omega) hbx7)
      | (go_at_call 81; refine (subst_d (w.heap.size + 1) n k2x _ _ _ ar _ (by omega) (by omega) hdr (by omega) (by omega) hcr1 (hsv2.chg G1 (by omega))).mono ?_; rintro e y2_2 ⟨aB, cB, lB, k3x, rfl, hB, hlB, hjB, hk1k3x, hk2k3x, hcr2, hr2⟩; have G2 := G1.trans hr2; have hzr2 : w2.heap.size ≤ y2_2.heap.size := G2.size; have hx2 := G2.cell (by omega) (by omega) hbx7; have hzs2 := hr2.size; have hbxL := G2.cell (by omega) (by omega) hbx2; have hb7F := (World.cell?_setCell_other y2_2 ⟨w.heap.size, 0, none⟩ ⟨w1.heap.size, 0, none⟩ (.slice sa ar.length sc) (fun h => (show w.heap.size ≠ w1.heap.size by omega) (congrArg Addr.block h))).trans hx2; have hfxL := (World.frozen?_of_block (w := w2) (w' := y2_2) (a := ⟨w.heap.size, 0, none⟩) (G2.block w.heap.size (by omega) (by omega))).trans hfx2)
      | fail)
  replace hA := hA.mono (show w2.heap.size ≤ w2.drew.heap.size from Nat.le_refl _) (Nat.le_refl _)
  replace hA := hA.chg hr2 (by omega)
  clear hfx2
  have hzL : w2.heap.size ≤ y2_2.heap.size := G2.size
  replace hsv2 := hsv2.chg G2 (by omega)
  replace hg2 := hg2.trans G2
  have hbF : (y2_2.setCell ⟨w.heap.size, 0, none⟩ (.slice sa ar.length sc)).cell? ⟨w.heap.size, 0, none⟩ = some (.slice sa ar.length sc) := World.cell?_setCell_same _ _ _ hbxL
  have hsv2F := (hsv2.set (p := ⟨w.heap.size, 0, none⟩) (.inl (by simp; omega)) (.slice sa ar.length sc)).mono (show w.heap.size ≤ _ by omega) (show _ ≤ (y2_2.setCell ⟨w.heap.size, 0, none⟩ (.slice sa ar.length sc)).heap.size by first | (simp; done) | (simp; omega))
  have hAF := (hA.set (p := ⟨w.heap.size, 0, none⟩) (.inl (by simp; omega)) (.slice sa ar.length sc)).mono (show w.heap.size ≤ _ by omega) (show _ ≤ (y2_2.setCell ⟨w.heap.size, 0, none⟩ (.slice sa ar.length sc)).heap.size by first | (simp; done) | (simp; omega))
  have hBF := (hB.set (p := ⟨w.heap.size, 0, none⟩) (.inl (by simp; omega)) (.slice sa ar.length sc)).mono (show w.heap.size ≤ _ by omega) (show _ ≤ (y2_2.setCell ⟨w.heap.size, 0, none⟩ (.slice sa ar.length sc)).heap.size by first | (simp; done) | (simp; omega))
  have hgF := (hg2.bel hB2 (by omega)).setCell (p := ⟨w.heap.size, 0, none⟩) (Nat.le_refl _) (.slice sa ar.length sc)
  clear hbx2 hbx7 hg2 hB2 hcr2 hsv2 hA hB
  go_wp2_with fail
  exact bodyPost_ret (v := .tuple #[.agg #[.slice sa ar.length sc], .slice aA lA.length cA, .slice aB lB.length cB]) (by simp [results, Try.results26, go_sem, hbF]) rfl ⟨_, _, _, ar, lA, lB, rfl, hdr, hsv2F, hAF, hlA, hjA, hBF, hlB, hjB, hgF⟩
set_option maxRecDepth 100000 in
set_option maxHeartbeats 1000000 in
theorem drawApply_c (n : Nat) (v : Value) (w : World) (hn : n ≤ 1048576) (hv : SlB w.heap.size w v n) :
    Calls Try.prog 31 #[v] w (RetDSI w) := by
  obtain ⟨ad, cap, rfl, hcap, hr⟩ := hv
  have hv : SlB w.heap.size w (.slice ad n cap) n := ⟨ad, cap, rfl, hcap, hr⟩
  have hB1 := Bel.alloc0 w (.cells #[.slice none 0 0] 29)
  have hs1 : (w.alloc (.cells #[.slice none 0 0] 29)).heap.size = w.heap.size + 1 := by simp
  have hC := Cur.new (T := 94) (w := w.alloc (.cells #[.slice none 0 0] 29)) (v := .slice ad n cap) (n := n) (by
    obtain ⟨ad', cap', e, hc, hr'⟩ := hv.chg (Chg.of_bel (lo := w.heap.size) (hi := w.heap.size) hB1) (Nat.le_refl _)
    exact ⟨ad', cap', e, hc, fun hp => by obtain ⟨b, off, e1, e2, e3⟩ := hr' hp; exact ⟨b, off, e1, by omega, e3⟩⟩)
  rw [hs1] at hC
  have hB2 := hB1.step (Bel.alloc0 (w.alloc (.cells #[.slice none 0 0] 29)) (.cells #[.slice ad n cap, .int .i64 0, .int .u64 0] 94))
  have hbx : ((w.alloc (.cells #[.slice none 0 0] 29)).alloc (.cells #[.slice ad n cap, .int .i64 0, .int .u64 0] 94)).cell? ⟨w.heap.size, 0, none⟩ = some (.slice none 0 0) := (Bel.alloc0 _ _).at (by simp) (by rw [World.cell?_alloc_new w]; rfl)
  have hfx : ((w.alloc (.cells #[.slice none 0 0] 29)).alloc (.cells #[.slice ad n cap, .int .i64 0, .int .u64 0] 94)).frozen? ⟨w.heap.size, 0, none⟩ = false := by simp [go_sem]; try rfl
  have HS := Lib.hid (sign_c (w.heap.size + 1) n 0 _ (by omega) (by omega) hC)
  go_enter Try.func31, Try.ntmps31
  go_wp2_with fail
  refine HS.out.mono ?_; rintro e w1 ⟨sv, ar, k1, rfl, hdr, hsv, hk1, hk2, hc1, hg1⟩
  obtain ⟨sa, sc, rfl⟩ := hsv.form
  have hW0 : ((w.alloc (.cells #[.slice none 0 0] 29)).alloc (.cells #[.slice ad n cap, .int .i64 0, .int .u64 0] 94)).heap.size = w.heap.size + 1 + 1 := by simp
  generalize ((w.alloc (.cells #[.slice none 0 0] 29)).alloc (.cells #[.slice ad n cap, .int .i64 0, .int .u64 0] 94)) = W0 at *
  have hsz1 : W0.heap.size ≤ w1.heap.size := hg1.size
  rw [hW0] at hsv
  have hbx1 := hg1.cell (by omega) (by omega) hbx
  have hfx1 : w1.frozen? ⟨w.heap.size, 0, none⟩ = false := (World.frozen?_of_block (w := W0) (w' := w1) (a := ⟨w.heap.size, 0, none⟩) (hg1.block w.heap.size (by omega) (by omega))).trans hfx
  have hB3 := Bel.alloc0 w1 (.cells #[.slice sa ar.length sc] 29)
  have hs2 : (w1.alloc (.cells #[.slice sa ar.length sc] 29)).heap.size = w1.heap.size + 1 := by simp
  have hbx7 : (w1.alloc (.cells #[.slice sa ar.length sc] 29)).cell? ⟨w1.heap.size, 0, none⟩ = some (.slice sa ar.length sc) := by rw [World.cell?_alloc_new w1]; rfl
  have hbx2 := hB3.at (by omega) hbx1
  have hfx2 := (World.frozen?_of_block (w := w1) (a := ⟨w.heap.size, 0, none⟩) (hB3.block w.heap.size (by omega))).trans hfx1
  have hc2 := hc1.below hB3
  have hsv2 := hsv.below hB3
  have hg2 := hg1.trans (Chg.of_bel (lo := w.heap.size + 1) (hi := w.heap.size + 1 + 1) hB3)
  generalize hw2 : w1.alloc (.cells #[.slice sa ar.length sc] 29) = w2 at *
  clear hc1 hg1 hbx1 hfx1 hB3 hsv hbx hfx HS hC hB1
  have hhi0 : w1.heap.size ≤ w2.heap.size := by omega
  go_wp2_with fail
  go_region_held3 (fun w' => w'.cell? ⟨w1.heap.size, 0, none⟩ = some (.slice sa ar.length sc))
    (first | exact hbx7 | exact hx1 | exact hx2 | exact hb7F | fail)
    (first
      | (go_at_call 81; refine (subst_d (w.heap.size + 1) n k1 _ _ _ ar _ (by omega) (by omega) hdr (by omega) (by exact hhi0) (hc2.below (Bel.drew0 w2)) (hsv2.below (Bel.drew0 w2))).mono ?_; rintro e y1_2 ⟨aA, cA, lA, k2x, rfl, hA, hlA, hjA, hk1k2x, hk2k2x, hcr1, hr1⟩; have G1 := (Chg.of_bel (lo := w.heap.size + 1) (hi := w.heap.size + 1 + 1) (Bel.drew0 w2)).trans hr1; have hzr1 : w2.heap.size ≤ y1_2.heap.size := G1.size; have hx1 := G1.cell (by omega) (by omega) hbx7)
      | (go_at_call 79; refine (anyTerm_c (w.heap.size + 1) n k2x _ _ _ ar _ (by omega) (by omega) hdr (by omega) hcr1 (hsv2.chg G1 (by omega))).mono ?_; rintro e y2_2 ⟨aB, cB, tB, k3x, rfl, hB, hlB, hk1k3x, hk2k3x, hcr2, hr2⟩; have G2 := G1.trans hr2; have hzr2 : w2.heap.size ≤ y2_2.heap.size := G2.size; have hx2 := G2.cell (by omega) (by omega) hbx7; have hzs2 := hr2.size; have hbxL := G2.cell (by omega) (by omega) hbx2; have hb7F := (World.cell?_setCell_other y2_2 ⟨w.heap.size, 0, none⟩ ⟨w1.heap.size, 0, none⟩ (.slice sa ar.length sc) (fun h => (show w.heap.size ≠ w1.heap.size by omega) (congrArg Addr.block h))).trans hx2; have hfxL := (World.frozen?_of_block (w := w2) (w' := y2_2) (a := ⟨w.heap.size, 0, none⟩) (G2.block w.heap.size (by omega) (by omega))).trans hfx2)
      | fail)
  replace hA := hA.mono (show w2.heap.size ≤ w2.drew.heap.size from Nat.le_refl _) (Nat.le_refl _)
  replace hA := hA.chg hr2 (by omega)
  clear hfx2
  have hzL : w2.heap.size ≤ y2_2.heap.size := G2.size
  replace hsv2 := hsv2.chg G2 (by omega)
  replace hg2 := hg2.trans G2
  have hbF : (y2_2.setCell ⟨w.heap.size, 0, none⟩ (.slice sa ar.length sc)).cell? ⟨w.heap.size, 0, none⟩ = some (.slice sa ar.length sc) := World.cell?_setCell_same _ _ _ hbxL
  have hsv2F := (hsv2.set (p := ⟨w.heap.size, 0, none⟩) (.inl (by simp; omega)) (.slice sa ar.length sc)).mono (show w.heap.size ≤ _ by omega) (show _ ≤ (y2_2.setCell ⟨w.heap.size, 0, none⟩ (.slice sa ar.length sc)).heap.size by first | (simp; done) | (simp; omega))
  have hAF := (hA.set (p := ⟨w.heap.size, 0, none⟩) (.inl (by simp; omega)) (.slice sa ar.length sc)).mono (show w.heap.size ≤ _ by omega) (show _ ≤ (y2_2.setCell ⟨w.heap.size, 0, none⟩ (.slice sa ar.length sc)).heap.size by first | (simp; done) | (simp; omega))
  have hBF := (hB.set (p := ⟨w.heap.size, 0, none⟩) (.inl (by simp; omega)) (.slice sa ar.length sc)).mono (show w.heap.size ≤ _ by omega) (show _ ≤ (y2_2.setCell ⟨w.heap.size, 0, none⟩ (.slice sa ar.length sc)).heap.size by first | (simp; done) | (simp; omega))
  have hgF := (hg2.bel hB2 (by omega)).setCell (p := ⟨w.heap.size, 0, none⟩) (Nat.le_refl _) (.slice sa ar.length sc)
  clear hbx2 hbx7 hg2 hB2 hcr2 hsv2 hA hB
  go_wp2_with fail
  exact bodyPost_ret (v := .tuple #[.agg #[.slice sa ar.length sc], .slice aA lA.length cA, .slice aB tB.length cB]) (by simp [results, Try.results31, go_sem, hbF]) rfl ⟨_, _, _, ar, lA, tB, rfl, hdr, hsv2F, hAF, hlA, hjA, hBF, hlB, hgF⟩
end Go.Proofs.Ytikllmdmifecpaa
end
section
/- The draws of chapter 2: two terms. -/
namespace Go.Proofs.Ytikllmdmifecpaa
open Go.RowKit

theorem short_12 {l : List (List Int)} (h : l.length ≤ 12) (hj : ∀ j, (l.getD j []).length ≤ 1000) : short l := ⟨by omega, fun j _ => by have := hj j; omega⟩
theorem slI_k {lo hi : Nat} {w : World} {ad : Option Addr} {n c : Nat} {xs : List Int} (h : SlI lo hi w (.slice ad n c) xs) : n = xs.length := by
  obtain ⟨ad', c', e⟩ := h.form
  simp only [Value.slice.injEq] at e
  exact e.2.1
def RetDII (w : World) (e : Ending) (w' : World) : Prop :=
  ∃ (sv tv uv : Value) (ar t u : List Int), e = .returned (.tuple #[.agg #[sv], tv, uv]) ∧ drawn ar ∧ SlI w.heap.size w'.heap.size w' sv ar ∧ SlI w.heap.size w'.heap.size w' tv t ∧ t.length ≤ 1048576 ∧ SlI w.heap.size w'.heap.size w' uv u ∧ u.length ≤ 1048576 ∧ Bel w w'

set_option maxRecDepth 100000 in
set_option maxHeartbeats 1000000 in
theorem drawMatch_c (n : Nat) (v : Value) (w : World) (hn : n ≤ 1048576) (hv : SlB w.heap.size w v n) :
    Calls Try.prog 22 #[v] w (RetDII w) := by
  obtain ⟨ad, cap, rfl, hcap, hr⟩ := hv
  have hv : SlB w.heap.size w (.slice ad n cap) n := ⟨ad, cap, rfl, hcap, hr⟩
  have hB1 := Bel.alloc0 w (.cells #[.slice none 0 0] 29)
  have hs1 : (w.alloc (.cells #[.slice none 0 0] 29)).heap.size = w.heap.size + 1 := by simp
  have hC := Cur.new (T := 94) (w := w.alloc (.cells #[.slice none 0 0] 29)) (v := .slice ad n cap) (n := n) (by
    obtain ⟨ad', cap', e, hc, hr'⟩ := hv.chg (Chg.of_bel (lo := w.heap.size) (hi := w.heap.size) hB1) (Nat.le_refl _)
    exact ⟨ad', cap', e, hc, fun hp => by obtain ⟨b, off, e1, e2, e3⟩ := hr' hp; exact ⟨b, off, e1, by omega, e3⟩⟩)
  rw [hs1] at hC
  have hB2 := hB1.step (Bel.alloc0 (w.alloc (.cells #[.slice none 0 0] 29)) (.cells #[.slice ad n cap, .int .i64 0, .int .u64 0] 94))
  have hbx : ((w.alloc (.cells #[.slice none 0 0] 29)).alloc (.cells #[.slice ad n cap, .int .i64 0, .int .u64 0] 94)).cell? ⟨w.heap.size, 0, none⟩ = some (.slice none 0 0) := (Bel.alloc0 _ _).at (by simp) (by rw [World.cell?_alloc_new w]; rfl)
  have hfx : ((w.alloc (.cells #[.slice none 0 0] 29)).alloc (.cells #[.slice ad n cap, .int .i64 0, .int .u64 0] 94)).frozen? ⟨w.heap.size, 0, none⟩ = false := by simp [go_sem]; try rfl
  have HS := Lib.hid (sign_c (w.heap.size + 1) n 0 _ (by omega) (by omega) hC)
  go_enter Try.func22, Try.ntmps22
  go_wp2_with fail
  refine HS.out.mono ?_; rintro e w1 ⟨sv, ar, k1, rfl, hdr, hsv, hk1, hk2, hc1, hg1⟩
  obtain ⟨sa, sc, rfl⟩ := hsv.form
  have hW0 : ((w.alloc (.cells #[.slice none 0 0] 29)).alloc (.cells #[.slice ad n cap, .int .i64 0, .int .u64 0] 94)).heap.size = w.heap.size + 1 + 1 := by simp
  generalize ((w.alloc (.cells #[.slice none 0 0] 29)).alloc (.cells #[.slice ad n cap, .int .i64 0, .int .u64 0] 94)) = W0 at *
  have hsz1 : W0.heap.size ≤ w1.heap.size := hg1.size
  rw [hW0] at hsv
  have hbx1 := hg1.cell (by omega) (by omega) hbx
  have hfx1 : w1.frozen? ⟨w.heap.size, 0, none⟩ = false := (World.frozen?_of_block (w := W0) (w' := w1) (a := ⟨w.heap.size, 0, none⟩) (hg1.block w.heap.size (by omega) (by omega))).trans hfx
  have hB3 := Bel.alloc0 w1 (.cells #[.slice sa ar.length sc] 29)
  have hs2 : (w1.alloc (.cells #[.slice sa ar.length sc] 29)).heap.size = w1.heap.size + 1 := by simp
  have hbx7 : (w1.alloc (.cells #[.slice sa ar.length sc] 29)).cell? ⟨w1.heap.size, 0, none⟩ = some (.slice sa ar.length sc) := by rw [World.cell?_alloc_new w1]; rfl
  have hbx2 := hB3.at (by omega) hbx1
  have hfx2 := (World.frozen?_of_block (w := w1) (a := ⟨w.heap.size, 0, none⟩) (hB3.block w.heap.size (by omega))).trans hfx1
  have hc2 := hc1.below hB3
  have hsv2 := hsv.below hB3
  have hg2 := hg1.trans (Chg.of_bel (lo := w.heap.size + 1) (hi := w.heap.size + 1 + 1) hB3)
  generalize hw2 : w1.alloc (.cells #[.slice sa ar.length sc] 29) = w2 at *
  clear hc1 hg1 hbx1 hfx1 hB3 hsv hbx hfx HS hC hB1
  have hal := drawn_len hdr
  go_wp2_with fail
  refine (anyTerm_c (w.heap.size + 1) n k1 _ _ _ ar w2 (by omega) (by omega) hdr (by omega) hc2 hsv2).mono ?_; rintro e w3 ⟨aP, cP, tP, k2x, rfl, hP, hlP, hk1k2x, hk2k2x, hc3, hgs3⟩
  have hzw3 : w2.heap.size ≤ w3.heap.size := hgs3.size
  replace hsv2 := hsv2.chg hgs3 (by omega)
  replace hbx7 := hgs3.cell (by omega) (by omega) hbx7
  have hfq := hfx2
  replace hfx2 := (World.frozen?_of_block (w := w2) (w' := w3) (a := ⟨w.heap.size, 0, none⟩) (hgs3.block w.heap.size (by omega) (by omega))).trans hfq
  clear hfq
  replace hbx2 := hgs3.cell (by omega) (by omega) hbx2
  replace hg2 := hg2.trans hgs3
  clear hc2
  have hhi0 : w1.heap.size ≤ w3.heap.size := by omega
  go_wp2_with fail
  go_region_held3 (fun w' => w'.cell? ⟨w1.heap.size, 0, none⟩ = some (.slice sa ar.length sc))
    (first | exact hbx7 | exact hx1 | exact hx2 | fail)
    (first
      | (go_at_call 81; refine (subst_d (w.heap.size + 1) n k2x _ _ _ ar _ (by omega) (by omega) hdr (by omega) (by exact hhi0) (hc3.below (Bel.drew0 w3)) (hsv2.below (Bel.drew0 w3))).mono ?_; rintro e y1_3 ⟨aA, cA, lA, k3x, rfl, hA, hlA, hjA, hk1k3x, hk2k3x, hcr1, hr1⟩; have G1 := (Chg.of_bel (lo := w.heap.size + 1) (hi := w.heap.size + 1 + 1) (Bel.drew0 w3)).trans hr1; have hzr1 : w3.heap.size ≤ y1_3.heap.size := G1.size; have hx1 := G1.cell (by omega) (by omega) hbx7)
      | (go_at_call 80; refine (sApply_t (by omega) (hsv2.chg G1 (by omega)) (short_12 hlA hjA) hA (by omega) (hP.chg G1 (by omega))).mono ?_; rintro e y2_3 ⟨aU, mU, cU, rfl, hU, hbq⟩; have hr2 := Chg.of_bel (lo := w.heap.size + 1) (hi := w.heap.size + 1 + 1) hbq; have G2 := G1.trans hr2; have hzr2 : w3.heap.size ≤ y2_3.heap.size := G2.size; have hx2 := G2.cell (by omega) (by omega) hbx7; have hzs2 := hr2.size; have hcr2 := Cur.below hcr1 hbq)
      | fail)
  replace hA := hA.mono (show w3.heap.size ≤ w3.drew.heap.size from Nat.le_refl _) (Nat.le_refl _)
  replace hA := hA.chg hr2 (by omega)
  skip
  have hzy2_3 : w3.heap.size ≤ y2_3.heap.size := G2.size
  replace hsv2 := hsv2.chg G2 (by omega)
  replace hP := hP.chg G2 (by omega)
  replace hbx7 := G2.cell (by omega) (by omega) hbx7
  have hfq := hfx2
  replace hfx2 := (World.frozen?_of_block (w := w3) (w' := y2_3) (a := ⟨w.heap.size, 0, none⟩) (G2.block w.heap.size (by omega) (by omega))).trans hfq
  clear hfq
  replace hbx2 := G2.cell (by omega) (by omega) hbx2
  replace hg2 := hg2.trans G2
  clear hx1 hx2 G1 G2 hr1 hr2
  replace hU := hU.sl
  have hmU := slI_k hU
  subst hmU
  have hrl := applyAns_len40 ar lA tP
  generalize applyAns ar lA tP = r at *
  generalize applyOk ar lA tP = ok at *
  cases ok with
  | false =>
    have hhi0 : w1.heap.size ≤ y2_3.heap.size := by omega
    go_wp2_with fail
    go_region_held3 (fun w' => w'.cell? ⟨w1.heap.size, 0, none⟩ = some (.slice sa ar.length sc))
      (first | exact hbx7 | exact hx1 | exact hb7F | fail)
      (first
        | (go_at_call 79; refine (anyTerm_c (w.heap.size + 1) n k3x _ _ _ ar _ (by omega) (by omega) hdr (by omega) (hcr2.below (Bel.drew0 y2_3)) (hsv2.below (Bel.drew0 y2_3))).mono ?_; rintro e y1_4 ⟨aQ, cQ, tQ, k4x, rfl, hQ, hlQ, hk1k4x, hk2k4x, hcr1, hr1⟩; have G1 := (Chg.of_bel (lo := w.heap.size + 1) (hi := w.heap.size + 1 + 1) (Bel.drew0 y2_3)).trans hr1; have hzr1 : y2_3.heap.size ≤ y1_4.heap.size := G1.size; have hx1 := G1.cell (by omega) (by omega) hbx7; have hbxL := G1.cell (by omega) (by omega) hbx2; have hb7F := (World.cell?_setCell_other y1_4 ⟨w.heap.size, 0, none⟩ ⟨w1.heap.size, 0, none⟩ (.slice sa ar.length sc) (fun h => (show w.heap.size ≠ w1.heap.size by omega) (congrArg Addr.block h))).trans hx1; have hfxL := (World.frozen?_of_block (w := y2_3) (w' := y1_4) (a := ⟨w.heap.size, 0, none⟩) (G1.block w.heap.size (by omega) (by omega))).trans hfx2)
        | fail)
    replace hQ := hQ.mono (show y2_3.heap.size ≤ y2_3.drew.heap.size from Nat.le_refl _) (Nat.le_refl _)
    clear hfx2
    have hzL : y2_3.heap.size ≤ y1_4.heap.size := G1.size
    replace hsv2 := hsv2.chg G1 (by omega)
    replace hP := hP.chg G1 (by omega)
    replace hA := hA.chg G1 (by omega)
    replace hU := hU.chg G1 (by omega)
    replace hg2 := hg2.trans G1
    have hbF : (y1_4.setCell ⟨w.heap.size, 0, none⟩ (.slice sa ar.length sc)).cell? ⟨w.heap.size, 0, none⟩ = some (.slice sa ar.length sc) := World.cell?_setCell_same _ _ _ hbxL
    have hsv2F := (hsv2.set (p := ⟨w.heap.size, 0, none⟩) (.inl (by simp; omega)) (.slice sa ar.length sc)).mono (show w.heap.size ≤ _ by omega) (show _ ≤ (y1_4.setCell ⟨w.heap.size, 0, none⟩ (.slice sa ar.length sc)).heap.size by first | (simp; done) | (simp; omega))
    have hPF := (hP.set (p := ⟨w.heap.size, 0, none⟩) (.inl (by simp; omega)) (.slice sa ar.length sc)).mono (show w.heap.size ≤ _ by omega) (show _ ≤ (y1_4.setCell ⟨w.heap.size, 0, none⟩ (.slice sa ar.length sc)).heap.size by first | (simp; done) | (simp; omega))
    have hAF := (hA.set (p := ⟨w.heap.size, 0, none⟩) (.inl (by simp; omega)) (.slice sa ar.length sc)).mono (show w.heap.size ≤ _ by omega) (show _ ≤ (y1_4.setCell ⟨w.heap.size, 0, none⟩ (.slice sa ar.length sc)).heap.size by first | (simp; done) | (simp; omega))
    have hUF := (hU.set (p := ⟨w.heap.size, 0, none⟩) (.inl (by simp; omega)) (.slice sa ar.length sc)).mono (show w.heap.size ≤ _ by omega) (show _ ≤ (y1_4.setCell ⟨w.heap.size, 0, none⟩ (.slice sa ar.length sc)).heap.size by first | (simp; done) | (simp; omega))
    have hQF := (hQ.set (p := ⟨w.heap.size, 0, none⟩) (.inl (by simp; omega)) (.slice sa ar.length sc)).mono (show w.heap.size ≤ _ by omega) (show _ ≤ (y1_4.setCell ⟨w.heap.size, 0, none⟩ (.slice sa ar.length sc)).heap.size by first | (simp; done) | (simp; omega))
    have hgF := (hg2.bel hB2 (by omega)).setCell (p := ⟨w.heap.size, 0, none⟩) (Nat.le_refl _) (.slice sa ar.length sc)
    clear hbx2 hbx7 hg2 hB2 hcr1 hsv2 hP hA hU hQ
    go_wp2_with fail
    exact bodyPost_ret (v := .tuple #[.agg #[.slice sa ar.length sc], .slice aP tP.length cP, .slice aQ tQ.length cQ]) (by simp [results, Try.results22, go_sem, hbF]) rfl ⟨_, _, _, ar, _, _, rfl, hdr, hsv2F, hPF, by omega, hQF, by omega, hgF⟩
  | true =>
    go_wp2_with fail
    refine (one_c (w.heap.size + 1) n k3x _ 4 y2_3 (by decide) (by omega) (by omega) (by omega) hcr2).mono ?_; rintro e w5 ⟨qq, k4x, rfl, hk1k4x, hk2k4x, hc5, hgs5⟩
    have hzw5 : y2_3.heap.size ≤ w5.heap.size := hgs5.size
    replace hsv2 := hsv2.chg hgs5 (by omega)
    replace hP := hP.chg hgs5 (by omega)
    replace hA := hA.chg hgs5 (by omega)
    replace hU := hU.chg hgs5 (by omega)
    replace hbx7 := hgs5.cell (by omega) (by omega) hbx7
    have hfq := hfx2
    replace hfx2 := (World.frozen?_of_block (w := y2_3) (w' := w5) (a := ⟨w.heap.size, 0, none⟩) (hgs5.block w.heap.size (by omega) (by omega))).trans hfq
    clear hfq
    replace hbx2 := hgs5.cell (by omega) (by omega) hbx2
    replace hg2 := hg2.trans hgs5
    clear hcr2
    cases qq with
    | true =>
      have hhi0 : w1.heap.size ≤ w5.heap.size := by omega
      go_wp2_with fail
      go_region_held3 (fun w' => w'.cell? ⟨w1.heap.size, 0, none⟩ = some (.slice sa ar.length sc))
        (first | exact hbx7 | exact hx1 | exact hb7F | fail)
        (first
          | (go_at_call 79; refine (anyTerm_c (w.heap.size + 1) n k4x _ _ _ ar _ (by omega) (by omega) hdr (by omega) (hc5.below (Bel.drew0 w5)) (hsv2.below (Bel.drew0 w5))).mono ?_; rintro e y1_5 ⟨aQ, cQ, tQ, k5x, rfl, hQ, hlQ, hk1k5x, hk2k5x, hcr1, hr1⟩; have G1 := (Chg.of_bel (lo := w.heap.size + 1) (hi := w.heap.size + 1 + 1) (Bel.drew0 w5)).trans hr1; have hzr1 : w5.heap.size ≤ y1_5.heap.size := G1.size; have hx1 := G1.cell (by omega) (by omega) hbx7; have hbxL := G1.cell (by omega) (by omega) hbx2; have hb7F := (World.cell?_setCell_other y1_5 ⟨w.heap.size, 0, none⟩ ⟨w1.heap.size, 0, none⟩ (.slice sa ar.length sc) (fun h => (show w.heap.size ≠ w1.heap.size by omega) (congrArg Addr.block h))).trans hx1; have hfxL := (World.frozen?_of_block (w := w5) (w' := y1_5) (a := ⟨w.heap.size, 0, none⟩) (G1.block w.heap.size (by omega) (by omega))).trans hfx2)
          | fail)
      replace hQ := hQ.mono (show w5.heap.size ≤ w5.drew.heap.size from Nat.le_refl _) (Nat.le_refl _)
      clear hfx2
      have hzL : w5.heap.size ≤ y1_5.heap.size := G1.size
      replace hsv2 := hsv2.chg G1 (by omega)
      replace hP := hP.chg G1 (by omega)
      replace hA := hA.chg G1 (by omega)
      replace hU := hU.chg G1 (by omega)
      replace hg2 := hg2.trans G1
      have hbF : (y1_5.setCell ⟨w.heap.size, 0, none⟩ (.slice sa ar.length sc)).cell? ⟨w.heap.size, 0, none⟩ = some (.slice sa ar.length sc) := World.cell?_setCell_same _ _ _ hbxL
      have hsv2F := (hsv2.set (p := ⟨w.heap.size, 0, none⟩) (.inl (by simp; omega)) (.slice sa ar.length sc)).mono (show w.heap.size ≤ _ by omega) (show _ ≤ (y1_5.setCell ⟨w.heap.size, 0, none⟩ (.slice sa ar.length sc)).heap.size by first | (simp; done) | (simp; omega))
      have hPF := (hP.set (p := ⟨w.heap.size, 0, none⟩) (.inl (by simp; omega)) (.slice sa ar.length sc)).mono (show w.heap.size ≤ _ by omega) (show _ ≤ (y1_5.setCell ⟨w.heap.size, 0, none⟩ (.slice sa ar.length sc)).heap.size by first | (simp; done) | (simp; omega))
      have hAF := (hA.set (p := ⟨w.heap.size, 0, none⟩) (.inl (by simp; omega)) (.slice sa ar.length sc)).mono (show w.heap.size ≤ _ by omega) (show _ ≤ (y1_5.setCell ⟨w.heap.size, 0, none⟩ (.slice sa ar.length sc)).heap.size by first | (simp; done) | (simp; omega))
      have hUF := (hU.set (p := ⟨w.heap.size, 0, none⟩) (.inl (by simp; omega)) (.slice sa ar.length sc)).mono (show w.heap.size ≤ _ by omega) (show _ ≤ (y1_5.setCell ⟨w.heap.size, 0, none⟩ (.slice sa ar.length sc)).heap.size by first | (simp; done) | (simp; omega))
      have hQF := (hQ.set (p := ⟨w.heap.size, 0, none⟩) (.inl (by simp; omega)) (.slice sa ar.length sc)).mono (show w.heap.size ≤ _ by omega) (show _ ≤ (y1_5.setCell ⟨w.heap.size, 0, none⟩ (.slice sa ar.length sc)).heap.size by first | (simp; done) | (simp; omega))
      have hgF := (hg2.bel hB2 (by omega)).setCell (p := ⟨w.heap.size, 0, none⟩) (Nat.le_refl _) (.slice sa ar.length sc)
      clear hbx2 hbx7 hg2 hB2 hcr1 hsv2 hP hA hU hQ
      go_wp2_with fail
      exact bodyPost_ret (v := .tuple #[.agg #[.slice sa ar.length sc], .slice aP tP.length cP, .slice aQ tQ.length cQ]) (by simp [results, Try.results22, go_sem, hbF]) rfl ⟨_, _, _, ar, _, _, rfl, hdr, hsv2F, hPF, by omega, hQF, by omega, hgF⟩
    | false =>
      have hbx2' := hbx2
      have hbF : (w5.setCell ⟨w.heap.size, 0, none⟩ (.slice sa ar.length sc)).cell? ⟨w.heap.size, 0, none⟩ = some (.slice sa ar.length sc) := World.cell?_setCell_same _ _ _ hbx2
      have hsv2F := (hsv2.set (p := ⟨w.heap.size, 0, none⟩) (.inl (by simp; omega)) (.slice sa ar.length sc)).mono (show w.heap.size ≤ _ by omega) (show _ ≤ (w5.setCell ⟨w.heap.size, 0, none⟩ (.slice sa ar.length sc)).heap.size by first | (simp; done) | (simp; omega))
      have hPF := (hP.set (p := ⟨w.heap.size, 0, none⟩) (.inl (by simp; omega)) (.slice sa ar.length sc)).mono (show w.heap.size ≤ _ by omega) (show _ ≤ (w5.setCell ⟨w.heap.size, 0, none⟩ (.slice sa ar.length sc)).heap.size by first | (simp; done) | (simp; omega))
      have hAF := (hA.set (p := ⟨w.heap.size, 0, none⟩) (.inl (by simp; omega)) (.slice sa ar.length sc)).mono (show w.heap.size ≤ _ by omega) (show _ ≤ (w5.setCell ⟨w.heap.size, 0, none⟩ (.slice sa ar.length sc)).heap.size by first | (simp; done) | (simp; omega))
      have hUF := (hU.set (p := ⟨w.heap.size, 0, none⟩) (.inl (by simp; omega)) (.slice sa ar.length sc)).mono (show w.heap.size ≤ _ by omega) (show _ ≤ (w5.setCell ⟨w.heap.size, 0, none⟩ (.slice sa ar.length sc)).heap.size by first | (simp; done) | (simp; omega))
      have hgF := (hg2.bel hB2 (by omega)).setCell (p := ⟨w.heap.size, 0, none⟩) (Nat.le_refl _) (.slice sa ar.length sc)
      clear hg2 hB2 hc5
      go_wp2_with fail
      exact bodyPost_ret (v := .tuple #[.agg #[.slice sa ar.length sc], .slice aP tP.length cP, .slice aU r.length cU]) (by simp [results, Try.results22, go_sem, hbF]) rfl ⟨_, _, _, ar, _, _, rfl, hdr, hsv2F, hPF, by omega, hUF, by omega, hgF⟩
end Go.Proofs.Ytikllmdmifecpaa
end
section
namespace Go.Proofs.Ytikllmdmifecpaa
open Go.RowKit

theorem letter_u8_neg (x : Int) (h : x < 0) : (⟨#[UInt8.ofNat ((65 + (-1 - x)) : Int).toNat]⟩ : ByteArray).data.toList = [letter x] := by simp [letter, h]
theorem letter_u8_pos : ∀ k : Nat, k < 10 → (97 + UInt8.ofNat k) = letter (k : Int) := by decide +kernel

set_option maxRecDepth 100000 in
set_option maxHeartbeats 2000000 in
theorem l1TermText_c (l h l' h' : Nat) (v u : Value) (ar t : List Int) (hg : goodSign ar = true) (hok : okTerm ar t = true) :
    ∀ (n i : Nat) (w : World), t.length - i ≤ n → i < t.length → SlI l h w v ar → SlI l' h' w u t → Calls Try.prog 162 #[.agg #[v], u, .int .i64 i] w (RetT w (textAt ar t i)) := by
  intro n
  induction n with
  | zero => intro i w hn hi; omega
  | succ n ih =>
    intro i w hn hi hv hu
    have IH := Lib.hid ih; clear ih
    have hv0 := hv; have hu0 := hu
    obtain ⟨ad, cap, rfl, -, -, hr⟩ := hv
    obtain ⟨ad', cap', rfl, -, -, hr'⟩ := hu
    have E := Lib.hid (textAt_eq ar t hok i hi)
    have HA := Lib.hid (argsOf_bd ar t hok i hi)
    have hal : (argsOf ar t i).length ≤ 3 := by rw [argsOf_len]; exact arOf_le ar hg _
    have HL := Lib.hid (acc_le ar t hok i hi)
    have HT := Lib.hid (textAt_le ar t hok)
    have htl := ((okTerm_iff ar t).1 hok).2.1
    have hsym := good_sym ar t hok i hi
    have hlen2 := argsOf_len (ar := ar) (t := t) (i := i)
    have hE := argsOf_neg (ar := ar) (t := t) (i := i)
    have hargs := fun w a b => l1Args_c l h l' h' (.slice ad ar.length cap) (.slice ad' t.length cap') ar t i w hg hok hi a b
    obtain ⟨b', off', rfl, hbl, hcell'⟩ := rd hr' (Bel.rfl' w) i hi
    have hk := fun n : Int => conv1 (w.alloc (.cells #[.slice ad ar.length cap] 29)) (w.heap.size + 1) n (by simp)
    generalize t.getD i 0 = x at *
    by_cases hx : x < 0
    · have hx2 : -12 ≤ x := by simp [okSym, inB] at hsym; omega
      have E2 : Hid (textAt ar t i = [letter x]) := by show _ = _; rw [E.out, hE hx]; simp [accT]
      clear E hE hlen2 hargs hal HL HA hsym
      go_enter Try.func162, Try.ntmps162
      go_wp2_with fail
      go_ret
      exact ⟨_, rfl, by rw [E2.out]; exact letter_u8_neg x hx, Bel.alloc2 _ _ _⟩
    · obtain ⟨kk, rfl⟩ : ∃ k : Nat, x = k := ⟨x.toNat, by omega⟩
      have hkk := okSym_lt hsym
      obtain ⟨b, off, rfl, hbl2, hcell⟩ := rd hr (Bel.rfl' w) kk hkk
      have hn := ar_nonneg ar hg kk
      rw [arOf_nat] at hlen2
      have hlen := sign_len ar hg
      have hkk2 : (kk : Int) < ar.length := by omega
      have hkk10 : kk < 10 := by omega
      have HARGS := Lib.hid hargs
      clear hr hr' hsym hE hargs
      generalize argsOf ar t i = args at *
      generalize ar.getD kk 0 = q at *
      go_enter Try.func162, Try.ntmps162
      go_wp2_with fail
      refine (HARGS.out _ ((hv0.alloc _).alloc _) ((hu0.alloc _).alloc _)).mono ?_; rintro e w1 ⟨ad1, m, c, rfl, ho, hb⟩
      obtain ⟨ad2, cap2, e, -, -, hr1⟩ := ho.1
      simp only [Value.slice.injEq] at e
      obtain ⟨rfl, rfl, rfl⟩ := e
      rw [natsI_len] at hr1 ⊢
      have hb0 : Bel (w.alloc (.cells #[.slice (some ⟨b, off, none⟩) ar.length cap] 29)) w1 := hb.of_alloc
      have HL1 := Lib.hid (letter_u8_pos kk hkk10)
      clear hk
      go_wp2_with fail
      go_loopw [7, 37] (fun o j wr => ∃ (k : Nat) (A : ByteArray), k ≤ args.length ∧ j = .int .i64 k ∧ o = .string A ∧ A.data.toList = letter (kk : Int) :: accT (textAt ar t) args k ∧ Bel (w.alloc (.cells #[.slice (some ⟨b, off, none⟩) ar.length cap] 29)) wr ∧ Bel w1 wr) (fun _ j _ => args.length - (intOf j).toNat)
      case atStart => exact ⟨0, _, Nat.zero_le _, rfl, rfl, congrArg (fun z => [z]) HL1.out, hb0, Bel.rfl' _⟩
      case round =>
        obtain ⟨k, A, hk, rfl, rfl, hA, hbr, hbw⟩ := hrel
        have hbox := boxc hbr 0 _ rfl
        have hAs : A.size ≤ 120 := by
          have := HL.out k hk
          rw [ba_size, hA, List.length_cons]; omega
        have HAA := Lib.hid hA; clear hA
        by_cases hlt : k < args.length
        · obtain ⟨b3, off3, e2, -, -, hc⟩ := hr1 (by omega)
          subst e2
          have hcell3 := (hbw.cell (p := ⟨b3, off3 + k, none⟩) (World.block_lt_of_cell? w1 ⟨b3, off3 + k, none⟩ (hc k hlt))).trans (hc k hlt)
          rw [natsI_get _ _ hlt] at hcell3
          have hmem : args.getD k 0 ∈ args := by simp [List.getD, hlt]
          have hab := HA.out _ hmem
          have ES : Hid (accT (textAt ar t) args (k + 1) = accT (textAt ar t) args k ++ (sepB k :: textAt ar t (args.getD k 0))) := rfl
          have hBs := HT.out (args.getD k 0) hab.2
          clear hr1 hc hmem
          generalize args.getD k 0 = a at *
          by_cases hk0 : k = 0
          · have hk0' : ((k : Int) == 0) = true := by simpa using hk0
            have HK0 := Lib.hid hk0; clear hk0
            go_wp2_with fail
            refine (IH.out a _ (by omega) hab.2 (hv0.below hbr.of_alloc) (hu0.below hbr.of_alloc)).mono ?_; rintro e w2 ⟨B, rfl, hB, hb2⟩
            have hBs2 : B.size ≤ 120 := by rw [ba_size, hB]; exact hBs
            have HB := Lib.hid hB; clear hB
            go_wp2_with fail
            go_roundw
            case rel => exact ⟨k + 1, _, by omega, by go_num, rfl, by rw [ba_app, ba_app, HAA.out, HB.out, ES.out, HK0.out]; simp [sepB, accT], hbr.step hb2, hbw.step hb2⟩
            case measure => simp [intOf]; omega
          · have hk0' : ((k : Int) == 0) = false := by simpa using hk0
            have HK0 := Lib.hid hk0; clear hk0
            go_wp2_with fail
            refine (IH.out a _ (by omega) hab.2 (hv0.below hbr.of_alloc) (hu0.below hbr.of_alloc)).mono ?_; rintro e w2 ⟨B, rfl, hB, hb2⟩
            have hBs2 : B.size ≤ 120 := by rw [ba_size, hB]; exact hBs
            have HB := Lib.hid hB; clear hB
            go_wp2_with fail
            go_roundw
            case rel => exact ⟨k + 1, _, by omega, by go_num, rfl, by rw [ba_app, ba_app, HAA.out, HB.out, ES.out]; simp [sepB, HK0.out], hbr.step hb2, hbw.step hb2⟩
            case measure => simp [intOf]; omega
        · have hkl : Hid (k = args.length) := by show _ = _; omega
          have hcx := hbr.of_alloc.at hbl2 hcell
          have hcx' := hbr.of_alloc.at hbl hcell'
          have hi2 : (i : Int) < t.length := by omega
          by_cases hq : 0 < q
          · have E3 : Hid ((if args.length = 0 then ([] : List UInt8) else [41]) = [41]) := if_neg (by omega)
            go_wp2_with fail
            go_quiet (fail)
            go_wp2_with fail
            go_ret
            exact ⟨_, rfl, by rw [ba_app, HAA.out, E.out, E3.out, hkl.out]; simp, hbr.of_alloc.drewN _⟩
          · have E3 : Hid ((if args.length = 0 then ([] : List UInt8) else [41]) = []) := if_pos (by omega)
            go_wp2_with fail
            go_quiet (fail)
            go_wp2_with fail
            go_ret
            exact ⟨_, rfl, by rw [E.out, E3.out, ← hkl.out]; simpa using HAA.out, hbr.of_alloc.drewN _⟩
end Go.Proofs.Ytikllmdmifecpaa
end
section
namespace Go.Proofs.Ytikllmdmifecpaa
open Go.RowKit

theorem markBefore_q (k : Nat) (b : UInt8) (h : sepB k = b) (w : World) : Calls Try.prog 177 #[.int .i64 k] w fun e w' => e = .returned (.string ⟨#[b]⟩) ∧ w' = w := by
  subst h
  by_cases h : k = 0
  · subst h
    go_enter Try.func177, Try.ntmps177
    go_wp2_with fail
    go_ret
    exact ⟨rfl, rfl⟩
  · have h' : ((k : Int) == 0) = false := by simpa using h
    have E : Hid (sepB k = 44) := if_neg h
    clear h
    go_enter Try.func177, Try.ntmps177
    go_wp2_with fail
    go_ret
    exact ⟨by rw [E.out]; rfl, rfl⟩
theorem letterOf_c (x : Int) (ar : List Int) (w : World) (h : okSym ar x = true) (hl : ar.length ≤ 10) : Calls Try.prog 175 #[.int .i64 x] w (RetV w (.string ⟨#[letter x]⟩)) := by
  have h2 : -12 ≤ x ∧ x < 10 := by simp [okSym, inB] at h; omega
  by_cases hx : x < 0
  · obtain ⟨k, rfl⟩ : ∃ k : Nat, x = -1 - (k : Int) := ⟨(-1 - x).toNat, by omega⟩
    exact letterOf_neg k w (by omega)
  · obtain ⟨k, rfl⟩ : ∃ k : Nat, x = k := ⟨x.toNat, by omega⟩
    exact letterOf_pos k w (by omega)

set_option maxRecDepth 100000 in
set_option maxHeartbeats 4000000 in
theorem textAt_c (l h l' h' : Nat) (v u : Value) (ar t : List Int) (hg : goodSign ar = true) (hok : okTerm ar t = true) :
    ∀ (n i : Nat) (w : World), t.length - i ≤ n → i < t.length → SlI l h w v ar → SlI l' h' w u t → Calls Try.prog 160 #[.agg #[v], u, .int .i64 i] w (RetT w (textAt ar t i)) := by
  intro n
  induction n with
  | zero => intro i w hn hi; omega
  | succ n ih =>
    intro i w hn hi hv hu
    have IH := Lib.hid ih; clear ih
    have hv0 := hv; have hu0 := hu
    obtain ⟨ad', cap', rfl, -, -, hr'⟩ := hu
    have E := Lib.hid (textAt_eq ar t hok i hi)
    have HA := Lib.hid (argsOf_bd ar t hok i hi)
    have hal : (argsOf ar t i).length ≤ 3 := by rw [argsOf_len]; exact arOf_le ar hg _
    have HL := Lib.hid (acc_le ar t hok i hi)
    have HT := Lib.hid (textAt_le ar t hok)
    have htl := ((okTerm_iff ar t).1 hok).2.1
    have HSYM := Lib.hid (good_sym ar t hok i hi)
    have HARGS := Lib.hid (fun w a b => argStarts_c l h l' h' v (.slice ad' t.length cap') ar t i w hg hok hi a b)
    obtain ⟨b', off', rfl, hbl, hcell'⟩ := rd hr' (Bel.rfl' w) i hi
    have hlen := sign_len ar hg
    clear hr'
    generalize t.getD i 0 = x at *
    generalize argsOf ar t i = args at *
    go_enter Try.func160, Try.ntmps160
    go_wp2_with fail
    refine (letterOf_c x ar _ HSYM.out hlen.2).mono ?_; rintro e w1 ⟨rfl, hb1⟩
    have hx1 := boxc hb1 0 _ rfl
    go_wp2_with fail
    refine (HARGS.out _ (hv0.below hb1.of_alloc) (hu0.below hb1.of_alloc)).mono ?_; rintro e w2 ⟨ad1, m, c, rfl, ho, hb2⟩
    obtain ⟨ad2, cap2, e, -, -, hr1⟩ := ho.1
    simp only [Value.slice.injEq] at e
    obtain ⟨rfl, rfl, rfl⟩ := e
    rw [natsI_len] at hr1 ⊢
    have hb0 := hb1.step hb2
    by_cases h0 : args.length = 0
    · have E3 : Hid ((if args.length = 0 then ([] : List UInt8) else [41]) = []) := if_pos h0
      have h0' : ((args.length : Int) == 0) = true := by simpa using h0
      have H0 := Lib.hid h0; clear h0
      go_wp2_with fail
      go_ret
      exact ⟨_, rfl, by rw [E.out, E3.out, H0.out]; simp [accT], hb0.of_alloc⟩
    · have E3 : Hid ((if args.length = 0 then ([] : List UInt8) else [41]) = [41]) := if_neg h0
      have h0' : ((args.length : Int) == 0) = false := by simpa using h0
      clear h0
      go_wp2_with fail
      go_loopw [7, 26] (fun o j wr => ∃ (k : Nat) (A : ByteArray), k ≤ args.length ∧ j = .int .i64 k ∧ o = .string A ∧ A.data.toList = letter x :: accT (textAt ar t) args k ∧ Bel (w.alloc (.cells #[v] 29)) wr ∧ Bel w2 wr) (fun _ j _ => args.length - (intOf j).toNat)
      case atStart => exact ⟨0, _, Nat.zero_le _, rfl, rfl, rfl, hb0, Bel.rfl' _⟩
      case round =>
        obtain ⟨k, A, hk, rfl, rfl, hA, hbr, hbw⟩ := hrel
        have hbox := boxc hbr 0 _ rfl
        have hAs : A.size ≤ 120 := by
          have := HL.out k hk
          rw [ba_size, hA, List.length_cons]; omega
        have HAA := Lib.hid hA; clear hA
        by_cases hlt : k < args.length
        · obtain ⟨b3, off3, e2, -, -, hc⟩ := hr1 (by omega)
          subst e2
          have hcell3 := (hbw.cell (p := ⟨b3, off3 + k, none⟩) (World.block_lt_of_cell? w2 ⟨b3, off3 + k, none⟩ (hc k hlt))).trans (hc k hlt)
          rw [natsI_get _ _ hlt] at hcell3
          have hmem : args.getD k 0 ∈ args := by simp [List.getD, hlt]
          have hab := HA.out _ hmem
          have ES : Hid (accT (textAt ar t) args (k + 1) = accT (textAt ar t) args k ++ (sepB k :: textAt ar t (args.getD k 0))) := rfl
          have hBs := HT.out (args.getD k 0) hab.2
          clear hr1 hc hmem
          generalize args.getD k 0 = a at *
          have hone : (⟨#[sepB k]⟩ : ByteArray).size = 1 := rfl
          obtain ⟨M, hM⟩ : ∃ M : ByteArray, M = ⟨#[sepB k]⟩ := ⟨_, rfl⟩
          rw [← hM] at hone
          have hMl : Hid (M.data.toList = [sepB k]) := by show _ = _; rw [hM]
          have hmk := Lib.hid (fun W => hM ▸ markBefore_q k (sepB k) rfl W)
          have hMs : M.size ≤ 1 := by omega
          clear hM hone
          go_wp2_with fail
          go_region_held3 (fun w' => Bel wr w' ∧ w'.cell? ⟨w.heap.size, 0, none⟩ = some v)
            (first | exact ⟨Bel.drew0 _, hbox⟩ | exact ⟨hb5.of_drew, boxc (hbr.drew.step hb5) 0 _ rfl⟩)
            (first | (go_at_call 177; refine (hmk.out _).mono ?_; rintro e wa ⟨rfl, rfl⟩) | (go_at_call 160; refine (IH.out a _ (by omega) hab.2 (hv0.below hbr.of_alloc.drew) (hu0.below hbr.of_alloc.drew)).mono ?_; rintro e w5 ⟨B, rfl, hB, hb5⟩; have hBs2 : B.size ≤ 120 := (by rw [ba_size, hB]; exact hBs); have HB := Lib.hid hB; clear hB; have hr1 := fun (W : World) => run_string_add_sum (P := Try.prog) (w := W) M B (by omega); have hr2 := fun (W : World) => run_string_add_sum (P := Try.prog) (w := W) A (M ++ B) (by rw [ByteArray.size_append]; omega)))
          go_wp2_with fail
          go_roundw
          case rel => exact ⟨k + 1, _, by omega, by go_num, rfl, by rw [ba_app, ba_app, HAA.out, HB.out, ES.out, hMl.out]; simp, hbr.drew.step hb5, hbw.drew.step hb5⟩
          case measure => simp [intOf]; omega
        · have hkl : Hid (k = args.length) := by show _ = _; omega
          go_wp2_with fail
          go_ret
          exact ⟨_, rfl, by rw [ba_app, HAA.out, E.out, E3.out, hkl.out]; simp, hbr.of_alloc⟩

/-- The text of a term, as bytes. -/
def textBA (ar t : List Int) : ByteArray := if goodTerm ar t then ⟨(textAt ar t 0).toArray⟩ else ⟨#[]⟩
theorem ba_eq {A : ByteArray} {l : List UInt8} (h : A.data.toList = l) : A = ⟨l.toArray⟩ := by subst h; cases A; simp
theorem text_no {ar t : List Int} (h : goodTerm ar t = false) : textBA ar t = ⟨#[]⟩ := by simp [textBA, h]
theorem text_yes {ar t : List Int} (h : goodTerm ar t = true) : textBA ar t = ⟨(textAt ar t 0).toArray⟩ := by simp [textBA, h]

end Go.Proofs.Ytikllmdmifecpaa
end
section
/- The draws of chapter 1: texts. -/
namespace Go.Proofs.Ytikllmdmifecpaa
open Go.RowKit

theorem text_size (ar t : List Int) : (textBA ar t).size ≤ 120 := by
  cases h : goodTerm ar t with
  | false => rw [text_no h]; decide
  | true =>
    obtain ⟨hg, hok⟩ := goodTerm_iff.1 h
    have := textAt_le ar t hok 0 (by have := ((okTerm_iff _ _).1 hok).1; omega)
    rw [text_yes h, ba_size]
    simpa using this
def RetDI (w : World) (e : Ending) (w' : World) : Prop :=
  ∃ (sv tv : Value) (ar t : List Int), e = .returned (.tuple #[.agg #[sv], tv]) ∧ drawn ar ∧ SlI w.heap.size w'.heap.size w' sv ar ∧ SlI w.heap.size w'.heap.size w' tv t ∧ t.length ≤ 1000 ∧ Bel w w'
def RetDS (w : World) (e : Ending) (w' : World) : Prop :=
  ∃ (sv : Value) (ar : List Int) (s : ByteArray), e = .returned (.tuple #[.agg #[sv], .string s]) ∧ drawn ar ∧ SlI w.heap.size w'.heap.size w' sv ar ∧ s.size ≤ 1000 ∧ Bel w w'

end Go.Proofs.Ytikllmdmifecpaa
end
section
/- Chapter 4, the reference: literals and clauses that are valid, weights. -/
namespace Go.Proofs.Ytikllmdmifecpaa
open Go.RowKit

set_option maxRecDepth 100000 in
set_option maxHeartbeats 400000 in
theorem l4Lit_c (l h l' h' : Nat) (v u1 u2 : Value) (ar xl xr : List Int) (p : Bool) (w : World) (hg : goodSign ar = true) (hl : xl.length ≤ 1048576) (hr : xr.length ≤ 1048576) (hv : SlI l h w v ar) (h1 : SlI l' h' w u1 xl) (h2 : SlI l' h' w u2 xr) :
    Calls Try.prog 132 #[.agg #[v], .agg #[.bool p, u1, u2]] w (RetV w (.bool (okTerm ar xl && okTerm ar xr))) := by
  have HB : Bel w ((w.alloc (.cells #[v] 29)).alloc (.cells #[.bool p, u1, u2] 106)) := Bel.alloc2 _ _ _
  cases e1 : okTerm ar xl with
  | false =>
    have HC := Lib.hid (fun (w' : World) (hb : Bel w w') => l1Term_v l h l' h' v u1 ar xl false w' e1 hg hl (hv.below hb) (h1.below hb))
    clear hv h1 h2 e1
    go_enter Try.func132, Try.ntmps132
    go_wp2_with fail
    refine (HC.out _ HB).mono ?_; rintro e w1 ⟨rfl, hb1⟩
    go_wp2_with fail
    go_ret
    exact ⟨rfl, HB.step hb1⟩
  | true =>
    rw [Bool.true_and]
    have HC := Lib.hid (fun (w' : World) (hb : Bel w w') => l1Term_v l h l' h' v u1 ar xl true w' e1 hg hl (hv.below hb) (h1.below hb))
    have HD := Lib.hid (fun (w' : World) (hb : Bel w w') => l1Term_c l h l' h' v u2 ar xr w' hg hr (hv.below hb) (h2.below hb))
    clear hv h1 h2 e1
    go_enter Try.func132, Try.ntmps132
    go_wp2_with fail
    refine (HC.out _ HB).mono ?_; rintro e w1 ⟨rfl, hb1⟩
    have k0 := hb1.at (b := w.heap.size) (off := 0) (by simp; omega) (show World.cell? _ _ = some v by simp [go_sem])
    have k2 := hb1.at (b := w.heap.size + 1) (off := 2) (by simp) (show World.cell? _ _ = some u2 by simp [go_sem])
    go_wp2_with fail
    refine (HD.out _ (HB.step hb1)).mono ?_; rintro e w2 ⟨rfl, hb2⟩
    go_wp2_with fail
    go_ret
    exact ⟨rfl, (HB.step hb1).step hb2⟩
end Go.Proofs.Ytikllmdmifecpaa
end
section
/- Chapter 4: facts on the answers. No program. -/
namespace Go.Proofs.Ytikllmdmifecpaa
open Go.RowKit

theorem flat_all (ar : List Int) (c : List Lt) : (flatC c).all (okTerm ar) = c.all (okLit ar) := by
  induction c with
  | nil => rfl
  | cons x r ih => rw [flatC_cons]; simp only [List.all_cons, ih, okLit, Bool.and_assoc]
theorem goodTerms_flat (ar : List Int) {c : List Lt} (h : c.length ≤ 8) : goodTerms ar (flatC c) 16 = goodClause ar c := by
  unfold goodTerms goodClause okLits
  rw [flat_all, flatC_len, decide_eq_true (show 2 * c.length ≤ 16 by omega), decide_eq_true h, Bool.and_true, Bool.true_and]
theorem goodClause_long (ar : List Int) {c : List Lt} (h : ¬ c.length ≤ 8) : goodClause ar c = false := by
  unfold goodClause okLits
  rw [decide_eq_false h]; simp
theorem flat_mem {c : List Lt} {t : List Int} (h : t ∈ flatC c) : ∃ x ∈ c, t = x.2.1 ∨ t = x.2.2 := by
  unfold flatC at h
  obtain ⟨x, hx, ht⟩ := List.mem_flatMap.1 h
  exact ⟨x, hx, by simpa using ht⟩
theorem flat_ok {ar : List Int} {c : List Lt} (h : ∀ x ∈ c, okLit ar x = true) {t : List Int} (ht : t ∈ flatC c) : okTerm ar t = true := by
  obtain ⟨x, hx, e⟩ := flat_mem ht
  have := okLit_iff.1 (h x hx)
  rcases e with rfl | rfl
  · exact this.1
  · exact this.2
theorem mem_getD {α : Type} (l : List α) (d : α) (j : Nat) (h : j < l.length) : l.getD j d ∈ l := by
  rw [List.getD_eq_getElem?_getD, List.getElem?_eq_getElem h]; exact List.getElem_mem h
theorem ok_litC {ar : List Int} {c : List Lt} (h : goodClause ar c = true) {j : Nat} (hj : j < c.length) : okTerm ar (c.getD j lt0).2.1 = true ∧ okTerm ar (c.getD j lt0).2.2 = true :=
  okLits_get (goodClause_iff.1 h).2.2 j hj

theorem low_memC {t : List Int} (h : ∀ n ∈ t, -12 ≤ n) : ∀ k, k < t.length → -12 ≤ t.getD k 0 := fun k hk => h _ (mem_getD t 0 k hk)
theorem ok_low {ar t : List Int} (h : okTerm ar t = true) {n : Int} (hn : n ∈ t) : -12 ≤ n := by
  obtain ⟨k, hk, rfl⟩ := List.getElem_of_mem hn
  have := good_sym ar t h k hk
  simp [okSym, inB, hk] at this
  exact this.1
theorem flat_low {ar : List Int} {c : List Lt} (h : goodClause ar c = true) : ∀ k, k < (flatC c).flatten.length → -12 ≤ (flatC c).flatten.getD k 0 := by
  refine low_memC fun n hn => ?_
  obtain ⟨t, ht, hnt⟩ := List.mem_flatten.1 hn
  exact ok_low (flat_ok (goodClause_iff.1 h).2.2 ht) hnt

/-- The signs of c, those terms. -/
theorem zipC_len (c : List Lt) : ∀ ts : List (List Int), ts.length = 2 * c.length → (zipC c ts).length = c.length := by
  induction c with
  | nil => intro ts _; rfl
  | cons x c ih =>
    intro ts h
    match ts, h with
    | l :: r :: ts, h => simp [zipC, ih ts (by simp at h; omega)]
theorem zipC_flat (c : List Lt) : ∀ ts : List (List Int), ts.length = 2 * c.length → flatC (zipC c ts) = ts := by
  induction c with
  | nil => intro ts h; simp at h; subst h; rfl
  | cons x c ih =>
    intro ts h
    match ts, h with
    | l :: r :: ts, h => simp only [zipC, flatC_cons]; rw [ih ts (by simp at h; omega)]
theorem zipC_signs (c : List Lt) : ∀ ts : List (List Int), ts.length = 2 * c.length → (zipC c ts).map (·.1) = c.map (·.1) := by
  induction c with
  | nil => intro ts _; rfl
  | cons x c ih =>
    intro ts h
    match ts, h with
    | l :: r :: ts, h => simp [zipC, ih ts (by simp at h; omega)]
theorem zipC_get (c : List Lt) : ∀ (ts : List (List Int)) (j : Nat), ts.length = 2 * c.length → j < c.length → (zipC c ts).getD j lt0 = ((c.getD j lt0).1, ts.getD (2*j) [], ts.getD (2*j+1) []) := by
  induction c with
  | nil => intro ts j _ h; simp at h
  | cons x c ih =>
    intro ts j h hj
    match ts, h with
    | l :: r :: ts, h =>
      cases j with
      | zero => simp [zipC]
      | succ j =>
        have := ih ts j (by simp at h; omega) (by simpa using hj)
        simpa [zipC, show 2 * (j + 1) = 2 * j + 1 + 1 from by omega] using this
theorem zipC_map (f : List Int → List Int) (c : List Lt) : zipC c ((flatC c).map f) = c.map fun x => (x.1, f x.2.1, f x.2.2) := by
  induction c with
  | nil => rfl
  | cons x c ih => rw [flatC_cons]; simp [zipC, ih]

def varsInAns (ar : List Int) (c : List Lt) : List Int := if goodClause ar c then natsI (varsTo (mk (flatC c).flatten) 12) else []
theorem varsInAns_len (ar : List Int) (c : List Lt) : (varsInAns ar c).length ≤ 1048576 := by
  unfold varsInAns
  split
  · rw [natsI_len]; exact Nat.le_trans (varsTo_len _ _) (by omega)
  · exact Nat.zero_le _

def applyC (b : List (List Int)) (c : List Lt) : List Lt := c.map fun x => (x.1, appT b x.2.1, appT b x.2.2)
def applyCok (ar : List Int) (b : List (List Int)) (c : List Lt) : Bool := (goodSubst ar b && okLits ar c) && okLits ar (applyC b c)
def applyCAns (ar : List Int) (b : List (List Int)) (c : List Lt) : List Lt := if applyCok ar b c then applyC b c else []
theorem applyC_flat (b : List (List Int)) (c : List Lt) : flatC (applyC b c) = (flatC c).map (appT b) := by
  induction c with
  | nil => rfl
  | cons x c ih => rw [flatC_cons, show applyC b (x :: c) = (x.1, appT b x.2.1, appT b x.2.2) :: applyC b c from rfl, flatC_cons, ih]; rfl
theorem applyC_ok {ar : List Int} {b : List (List Int)} {c : List Lt} (hb : goodSubst ar b = true) (hc : okLits ar c = true) : okLits ar (applyC b c) = (flatC c).all (app40ok b) := by
  obtain ⟨hl, h⟩ := okLits_iff.1 hc
  unfold okLits
  rw [← flat_all, applyC_flat, show (applyC b c).length = c.length from by simp [applyC], decide_eq_true hl, Bool.true_and, List.all_map]
  rw [Bool.eq_iff_iff, List.all_eq_true, List.all_eq_true]
  constructor
  · intro k t ht
    rw [← app_ok hb (flat_ok h ht)]; exact k t ht
  · intro k t ht
    show okTerm ar (appT b t) = true
    rw [app_ok hb (flat_ok h ht)]; exact k t ht

def renC (c : List Lt) : List Lt := zipC c (renS [] (flatC c))
def renCAns (ar : List Int) (c : List Lt) : List Lt := if goodClause ar c then renC c else []
end Go.Proofs.Ytikllmdmifecpaa
end
section
/- Chapter 4, the reference: valid clauses, weights. -/
namespace Go.Proofs.Ytikllmdmifecpaa
open Go.RowKit

theorem okTerm_len {ar t : List Int} (h : okTerm ar t = true) : 1 ≤ t.length ∧ t.length ≤ 40 := ⟨((okTerm_iff ar t).1 h).1, ((okTerm_iff ar t).1 h).2.1⟩
theorem l4Lit_v (l h l' h' : Nat) (v u1 u2 : Value) (ar xl xr : List Int) (p q : Bool) (w : World) (hq : (okTerm ar xl && okTerm ar xr) = q) (hg : goodSign ar = true) (hl : xl.length ≤ 1048576) (hr : xr.length ≤ 1048576) (hv : SlI l h w v ar) (h1 : SlI l' h' w u1 xl) (h2 : SlI l' h' w u2 xr) :
    Calls Try.prog 132 #[.agg #[v], .agg #[.bool p, u1, u2]] w (RetV w (.bool q)) := by subst hq; exact l4Lit_c l h l' h' v u1 u2 ar xl xr p w hg hl hr hv h1 h2

set_option maxRecDepth 100000 in
set_option maxHeartbeats 400000 in
theorem l4Clause_c (l h l' h' : Nat) (v u : Value) (ar : List Int) (c : List Lt) (w : World) (hg : goodSign ar = true) (hx : shortC c) (hv : SlI l h w v ar) (hu : SlC l' h' w u c) :
    Calls Try.prog 88 #[.agg #[v], u] w (RetV w (.bool (okLits ar c))) := by
  obtain ⟨ad, cap, rfl⟩ := hu.form
  obtain ⟨hxl, hxj⟩ := hx
  go_enter Try.func88, Try.ntmps88
  go_wp2_with fail
  go_loopw [9] (fun i wr => ∃ k : Nat, k ≤ c.length ∧ i = .int .i64 k ∧ okTo ar c k ∧ Bel (w.alloc (.cells #[v] 29)) wr) (fun i _ => c.length - (intOf i).toNat)
  case atStart => exact ⟨0, Nat.zero_le _, rfl, fun j hj => absurd hj (by omega), Bel.rfl' _⟩
  case round =>
    obtain ⟨k, hk, rfl, hto, hb⟩ := hrel
    have hbox := boxc hb 0 _ rfl
    by_cases hlt : k < c.length
    · obtain ⟨b, off, u1, u2, rfl, hbs, c1, c2, c3, s1, s2⟩ := hu.at hb.of_alloc k hlt
      obtain ⟨hm1, hm2⟩ := hxj k hlt
      have hstep := hto.step (k := k)
      have hbad := okLits_bad (ar := ar) hlt
      have hin1 : (k : Int) < c.length := by omega
      have hvr := hv.below hb.of_alloc
      clear hu hv hxj hto
      unfold okLit at hstep hbad
      generalize c.getD k lt0 = x at *
      obtain ⟨p, xl, xr⟩ := x
      simp only at *
      obtain ⟨a1, d1, rfl⟩ := s1.form
      obtain ⟨a2, d2, rfl⟩ := s2.form
      have hbox2 := boxc (hb.alloc (.cells #[.bool p, .slice a1 xl.length d1, .slice a2 xr.length d2] 106)) 0 _ rfl
      cases hq : (okTerm ar xl && okTerm ar xr) with
      | false =>
        have E := Lib.hid (hbad hq)
        have HQ := Lib.hid hq
        clear hstep hbad hq
        go_wp2_with fail
        refine (l4Lit_v l h l' h' v _ _ ar xl xr p false _ HQ.out hg hm1 hm2 (hvr.alloc _) (s1.alloc _) (s2.alloc _)).mono ?_; rintro e w1 ⟨rfl, hb1⟩
        go_wp2_with fail
        go_ret
        exact ⟨by rw [E.out]; rfl, hb.of_alloc.step ((Bel.alloc0 _ _).step hb1)⟩
      | true =>
        have E := Lib.hid (hstep hq)
        have HQ := Lib.hid hq
        clear hstep hbad hq
        go_wp2_with fail
        refine (l4Lit_v l h l' h' v _ _ ar xl xr p true _ HQ.out hg hm1 hm2 (hvr.alloc _) (s1.alloc _) (s2.alloc _)).mono ?_; rintro e w1 ⟨rfl, hb1⟩
        go_wp2_with fail
        go_roundw
        case rel => exact ⟨k+1, by omega, by go_num, E.out, hb.step ((Bel.alloc0 _ _).step hb1)⟩
        case measure => simp [intOf]; omega
    · obtain rfl : k = c.length := by omega
      have E := Lib.hid hto.done
      have hd : decide ((c.length : Int) ≤ 8) = decide (c.length ≤ 8) := by rw [decide_eq_decide]; omega
      go_wp2_with fail
      go_ret
      exact ⟨by rw [E.out, ← hd]; rfl, hb.of_alloc⟩

set_option maxRecDepth 100000 in
set_option maxHeartbeats 400000 in
theorem l4Weight_c (l h : Nat) (v : Value) (c : List Lt) (w : World) (hx : sumC c ≤ 1048576) (hv : SlC l h w v c) :
    Calls Try.prog 110 #[v] w (RetV w (.int .i64 (lenC c : Nat))) := by
  obtain ⟨ad, cap, rfl⟩ := hv.form
  have hse := sumC_eq c
  go_enter Try.func110, Try.ntmps110
  go_wp2_with fail
  go_loopw [3, 8] (fun m i wr => ∃ k : Nat, k ≤ c.length ∧ i = .int .i64 k ∧ m = .int .i64 (lenC (c.take k) : Nat) ∧ Bel w wr) (fun _ i _ => c.length - (intOf i).toNat)
  case atStart => exact ⟨0, Nat.zero_le _, rfl, by simp [lenC, flatC, sumL], Bel.rfl' _⟩
  case round =>
    obtain ⟨k, hk, rfl, rfl, hb⟩ := hrel
    by_cases hlt : k < c.length
    · obtain ⟨b, off, u1, u2, rfl, hbs, c1, c2, c3, s1, s2⟩ := hv.at hb k hlt
      have hst := lenC_take c k hlt
      have hsl := lenC_get c k hlt
      have hin1 : (k : Int) < c.length := by omega
      clear hv
      generalize c.getD k lt0 = x at *
      obtain ⟨p, xl, xr⟩ := x
      simp only at *
      obtain ⟨a1, d1, rfl⟩ := s1.form
      obtain ⟨a2, d2, rfl⟩ := s2.form
      have HE : Hid (((lenC (c.take k) : Nat) : Int) + ((xl.length : Int) + xr.length) = (lenC (c.take (k+1)) : Nat)) := by show _ = _; omega
      have i1 := IntWalk.i64_in ((xl.length : Int) + xr.length) (by omega)
      have i2 := IntWalk.i64_in (((lenC (c.take k) : Nat) : Int) + ((xl.length : Int) + xr.length)) (by omega)
      clear s1 s2 hst hsl
      go_wp2_with fail
      go_roundw
      case rel => exact ⟨k+1, by omega, by go_num, by rw [← HE.out], hb.alloc _⟩
      case measure => simp [intOf]; omega
    · rw [lenC_all c k hlt]
      go_wp2_with fail
      go_ret
      exact ⟨rfl, hb⟩
end Go.Proofs.Ytikllmdmifecpaa
end
section
/- Chapter 4, the reference: GoodClause, WeightOf. -/
namespace Go.Proofs.Ytikllmdmifecpaa
open Go.RowKit

set_option maxRecDepth 100000 in
set_option maxHeartbeats 400000 in
theorem sGoodClause_t {l h l' h' : Nat} {v u : Value} {ar : List Int} {c : List Lt} {w : World} (ha : ar.length ≤ 1048576) (hv : SlI l h w v ar) (hc : sumC c ≤ 1048576) (hu : SlC l' h' w u c) :
    Calls Try.prog 54 #[.agg #[v], u] w (RetV w (.bool (goodClause ar c))) := by
  unfold goodClause
  cases hg : goodSign ar with
  | false =>
    rw [Bool.false_and]
    have HG := Lib.hid hg; clear hg
    go_enter Try.func54, Try.ntmps54
    go_wp2_with fail
    refine (sGoodSign_v _ _ _ _ _ _ HG.out ha (hv.alloc _)).mono ?_; rintro e w1 ⟨rfl, hb1⟩
    go_wp2_with fail
    go_ret
    exact ⟨rfl, hb1.of_alloc⟩
  | true =>
    rw [Bool.true_and]
    have HG := Lib.hid hg
    have HC := Lib.hid (fun (w' : World) (hb : Bel w w') => l4Clause_c l h l' h' v u ar c w' hg (shortC_of_sum hc) (hv.below hb) (hu.below hb))
    clear hg hc
    go_enter Try.func54, Try.ntmps54
    go_wp2_with fail
    refine (sGoodSign_v _ _ _ _ _ _ HG.out ha (hv.alloc _)).mono ?_; rintro e w1 ⟨rfl, hb1⟩
    have hbox := boxc hb1 0 _ rfl
    go_wp2_with fail
    refine (HC.out _ hb1.of_alloc).mono ?_; rintro e w2 ⟨rfl, hb2⟩
    go_wp2_with fail
    go_ret
    exact ⟨rfl, hb1.of_alloc.step hb2⟩
theorem sGoodClause_v {l h l' h' : Nat} {v u : Value} {ar : List Int} {c : List Lt} {w : World} {q : Bool} (he : goodClause ar c = q) (ha : ar.length ≤ 1048576) (hv : SlI l h w v ar) (hc : sumC c ≤ 1048576) (hu : SlC l' h' w u c) :
    Calls Try.prog 54 #[.agg #[v], u] w (RetV w (.bool q)) := by subst he; exact sGoodClause_t ha hv hc hu

set_option maxRecDepth 100000 in
set_option maxHeartbeats 400000 in
theorem sWeightOf_t {l h l' h' : Nat} {v u : Value} {ar : List Int} {c : List Lt} {w : World} (ha : ar.length ≤ 1048576) (hv : SlI l h w v ar) (hc : sumC c ≤ 1048576) (hu : SlC l' h' w u c) :
    Calls Try.prog 61 #[.agg #[v], u] w (RetV w (.tuple #[.int .i64 (weightAns ar c), .bool (goodClause ar c)])) := by
  unfold weightAns
  cases hg : goodClause ar c with
  | false =>
    rw [if_neg (by simp)]
    have HG := Lib.hid hg; clear hg
    go_enter Try.func61, Try.ntmps61
    go_wp2_with fail
    refine (sGoodClause_v HG.out ha (hv.alloc _) hc (hu.alloc _)).mono ?_; rintro e w1 ⟨rfl, hb1⟩
    go_wp2_with fail
    go_ret2
    exact ⟨rfl, hb1.of_alloc⟩
  | true =>
    rw [if_pos rfl]
    have HG := Lib.hid hg; clear hg
    have HC := Lib.hid (fun (w' : World) (hb : Bel w w') => l4Weight_c l' h' u c w' hc (hu.below hb))
    go_enter Try.func61, Try.ntmps61
    go_wp2_with fail
    refine (sGoodClause_v HG.out ha (hv.alloc _) hc (hu.alloc _)).mono ?_; rintro e w1 ⟨rfl, hb1⟩
    clear hc
    go_wp2_with fail
    refine (HC.out _ hb1.of_alloc).mono ?_; rintro e w2 ⟨rfl, hb2⟩
    go_wp2_with fail
    go_ret2
    exact ⟨rfl, hb1.of_alloc.step hb2⟩
end Go.Proofs.Ytikllmdmifecpaa
end
