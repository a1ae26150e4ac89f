/- Match: the reference's. -/
import Derived.Test.YtikllmdmifecpaaMatS0
import Derived.Deep.OwnRows
namespace Go.Proofs.Ytikllmdmifecpaa
open Go.RowKit Go.Maps

/-- The first k have been taken back where they bind a variable to itself. -/
def mixF (F : Nat → List Int) (k : Nat) : Nat → List Int := fun v => if v < k then stayF F v else F v
theorem mixF_zero (F : Nat → List Int) : mixF F 0 = F := by funext v; simp [mixF]
theorem mixF_succ (F : Nat → List Int) (k : Nat) : upd (mixF F k) k (stayF F k) = mixF F (k+1) := by
  funext v
  unfold upd mixF
  by_cases e : v = k
  · subst e; simp
  · by_cases h : v < k
    · rw [if_neg e, if_pos h, if_pos (by omega)]
    · rw [if_neg e, if_neg h, if_neg (by omega)]
theorem mixF_at (F : Nat → List Int) (k : Nat) : mixF F k k = F k := by simp [mixF]
theorem rawL_mix (F : Nat → List Int) : rawL (mixF F 12) = substL F := by
  unfold rawL substL
  apply List.map_congr_left
  intro v hv
  rw [List.mem_range] at hv
  simp [mixF, hv]
theorem made12 (w : World) : (Instr.makeSlice 26 (.int .i64 12) (.int .i64 12)).run Try.prog w = .ok (.slice (some ⟨w.heap.size, 0, none⟩) 12 12) (w.alloc (.cells (madeCells #[.slice none 0 0] 12) 22)) :=
  Go.run_make_row' 26 22 (.slice none 0 0) 24 Try.underlying26 Try.info22 rfl .i64 .i64 12 (by omega) (by omega) w
theorem rep12 (w : World) : (w.alloc (.cells (madeCells #[.slice none 0 0] 12) 22)).ownsRow w.heap.size 22 1 (.slice (some ⟨w.heap.size, 0, none⟩) 12 12) 12 (List.replicate 12 (Value.slice none 0 0)) := by
  have h := World.ownsRow_lit (e := 22) (base := w.heap.size) (size := 1) w (madeCells #[.slice none 0 0] 12) 12 (Nat.le_refl _) (by unfold maxLen; omega) (by rw [← Array.length_toList, toList_madeCells_one]; simp)
  rw [toList_madeCells_one] at h
  exact h
theorem arr12 {w w' : World} {base B : Nat} (hb : base ≤ w.heap.size) (hB : B = w.heap.size) (hw : Bel (w.alloc (.cells (madeCells #[.slice none 0 0] 12) 22)) w') :
    Arr base B (fun _ => 2) w' (List.replicate 12 (Value.slice none 0 0)) (fun _ => []) := by
  subst hB
  exact Arr.fresh ((show OwnT base (fun _ => 2) 2 22 (w.alloc (.cells (madeCells #[.slice none 0 0] 12) 22)) (.slice (some ⟨w.heap.size, 0, none⟩) 12 12) (List.replicate 12 (Value.slice none 0 0)) from ⟨by simpa using row_mono (rep12 w) hb, fun _ _ => rfl⟩).bel hw)

set_option maxRecDepth 100000 in
set_option maxHeartbeats 1000000 in
theorem sMatch_t {l h l' h' l2 h2 : Nat} {v x y : Value} {ar p t : List Int} {w : World} (ha : ar.length ≤ 1048576) (hv : SlI l h w v ar) (hpl : p.length ≤ 1048576) (hx : SlI l' h' w x p) (htl : t.length ≤ 1048576) (hy : SlI l2 h2 w y t) :
    Calls Try.prog 10 #[.agg #[v], x, y] w (RetSSB w (matchAns ar p t) (matchOk ar p t)) := by
  cases hs : goodTerm ar p with
  | false =>
    have h0 : matchOk0 ar p t = false := by simp [matchOk0, hs]
    have E := Lib.hid (match_no0 h0).1
    have E2 := Lib.hid (match_no0 h0).2
    have HS := Lib.hid hs; clear hs h0
    go_enter Try.func10, Try.ntmps10
    go_wp2_with fail
    refine (sGoodTerm_v _ _ _ _ _ _ _ _ _ _ HS.out ha hpl (hv.alloc _) (hx.alloc _)).mono ?_; rintro e w1 ⟨rfl, hb1⟩
    go_wp2_with fail
    go_ret2
    exact ⟨_, _, _, by rw [E2.out]; rfl, by rw [E.out]; exact OwnS.nil _ _ _, hb1.of_alloc⟩
  | true =>
    obtain ⟨hg, hop⟩ := goodTerm_iff.1 hs
    cases hs2 : okTerm ar t with
    | false =>
      have h0 : matchOk0 ar p t = false := by simp [matchOk0, hs2]
      have E := Lib.hid (match_no0 h0).1
      have E2 := Lib.hid (match_no0 h0).2
      have HS := Lib.hid (And.intro hs hs2); clear hs hs2 h0
      go_enter Try.func10, Try.ntmps10
      go_wp2_with fail
      refine (sGoodTerm_v _ _ _ _ _ _ _ _ _ _ HS.out.1 ha hpl (hv.alloc _) (hx.alloc _)).mono ?_; rintro e w1 ⟨rfl, hb1⟩
      have hx1 := boxc hb1 0 _ rfl
      go_wp2_with fail
      refine (l1Term_v _ _ _ _ _ _ _ _ _ _ HS.out.2 hg htl (hv.below hb1.of_alloc) (hy.below hb1.of_alloc)).mono ?_; rintro e w2 ⟨rfl, hb2⟩
      go_wp2_with fail
      go_ret2
      exact ⟨_, _, _, by rw [E2.out]; rfl, by rw [E.out]; exact OwnS.nil _ _ _, (hb1.step hb2).of_alloc⟩
    | true =>
      have h00 : matchOk0 ar p t = true := by simp [matchOk0, hs, hs2]
      have hot := hs2
      have HS := Lib.hid (And.intro (And.intro hs hs2) h00); clear hs hs2 h00
      have HO := Lib.hid (And.intro hop hot); clear hop hot
      obtain ⟨xa, xc, rfl⟩ := hx.form
      obtain ⟨ya, yc, rfl⟩ := hy.form
      go_enter Try.func10, Try.ntmps10
      go_wp2_with fail
      refine (sGoodTerm_v _ _ _ _ _ _ _ _ _ _ HS.out.1.1 ha hpl (hv.alloc _) (hx.alloc _)).mono ?_; rintro e w1 ⟨rfl, hb1⟩
      have hx1 := boxc hb1 0 _ rfl
      go_wp2_with fail
      refine (l1Term_v _ _ _ _ _ _ _ _ _ _ HS.out.1.2 hg htl (hv.below hb1.of_alloc) (hy.below hb1.of_alloc)).mono ?_; rintro e w2 ⟨rfl, hb2⟩
      have hb12 := hb1.step hb2
      have hx2 := boxc hb12 0 _ rfl
      have hbl2 : w.heap.size < w2.heap.size := by have := hb12.size; simp at this; omega
      have hvw := (hv.below hb12.of_alloc).in'
      have hxw := (hx.below hb12.of_alloc).in'
      have hyw := (hy.below hb12.of_alloc).in'
      have HL := Lib.hid (fun (B : Nat) (w' : World) (hb : Bel w2 w') (hA : Arr w2.heap.size B (fun _ => 2) w' (List.replicate 12 (Value.slice none 0 0)) (fun _ => [])) (hB : w2.heap.size ≤ B) => l2Match_c w2.heap.size B (fun _ => 2) _ v _ _ ar p t w' hB hg HO.out.1 HO.out.2 hA (hvw.below hb) (hxw.below hb) (hyw.below hb))
      clear hv hx hy hb1 hb2 hx1 hvw hxw hyw
      have hmk := made12
      cases hR : matchR ar p t with
      | none =>
        have E := Lib.hid (match_no hR).1
        have E2 := Lib.hid (match_no hR).2
        have HL := Lib.hid (fun (B : Nat) (w' : World) (hb : Bel w2 w') (hA : Arr w2.heap.size B (fun _ => 2) w' (List.replicate 12 (Value.slice none 0 0)) (fun _ => [])) (hB : w2.heap.size ≤ B) => hR ▸ HL.out B w' hb hA hB)
        clear hR
        go_wp2_with fail
        go_region_held3 (fun w' => Bel w2 w' ∧ w'.cell? ⟨w.heap.size, 0, none⟩ = some v)
          (first | exact ⟨Bel.drew0 _, hx2⟩ | exact ⟨Bel.alloc (Bel.drew0 _) _, (Bel.alloc (Bel.drew0 _) _).at hbl2 hx2⟩ | exact ⟨Bel.drew (Bel.alloc0 _ _), (Bel.drew (Bel.alloc0 _ _)).at hbl2 hx2⟩ | exact ⟨hB4, hB4.at hbl2 hx2⟩)
          (first | (go_at_call 72; refine (HL.out w2.heap.size _ (by first | exact Bel.drew (Bel.alloc0 _ _) | exact Bel.alloc (Bel.drew0 _) _) (by first | exact arr12 (Nat.le_refl _) rfl (Bel.rfl' _) | exact arr12 (Nat.le_refl _) rfl (Bel.drew0 _)) (Nat.le_refl _)).mono ?_; rintro e w4 ⟨hch, rfl⟩; have hB4 : Bel w2 w4 := hch.bel (by first | exact Bel.drew (Bel.alloc0 _ _) | exact Bel.alloc (Bel.drew0 _) _) (Nat.le_refl _)))
        go_wp2_with fail
        go_ret2
        exact ⟨_, _, _, by rw [E2.out]; rfl, by rw [E.out]; exact OwnS.nil _ _ _, (hb12.step hB4).of_alloc⟩
      | some F =>
        have E := Lib.hid (match_yes HS.out.2 hR).1
        have E2 := Lib.hid (match_yes HS.out.2 hR).2
        have HL := Lib.hid (fun (B : Nat) (w' : World) (hb : Bel w2 w') (hA : Arr w2.heap.size B (fun _ => 2) w' (List.replicate 12 (Value.slice none 0 0)) (fun _ => [])) (hB : w2.heap.size ≤ B) => hR ▸ HL.out B w' hb hA hB)
        have hF40 := mg_len HO.out.2 p p.length 0 0 (fun _ => []) F (by omega) (by omega) (Pair2.start HO.out.1 HO.out.2) (by simp) (by simpa [matchR] using hR)
        clear hR
        go_wp2_with fail
        go_region_held3 (fun w' => Bel w2 w' ∧ w'.cell? ⟨w.heap.size, 0, none⟩ = some v)
          (first | exact ⟨Bel.drew0 _, hx2⟩ | exact ⟨Bel.alloc (Bel.drew0 _) _, (Bel.alloc (Bel.drew0 _) _).at hbl2 hx2⟩ | exact ⟨Bel.drew (Bel.alloc0 _ _), (Bel.drew (Bel.alloc0 _ _)).at hbl2 hx2⟩ | exact ⟨hB4, hB4.at hbl2 hx2⟩)
          (first | (go_at_call 72; refine (HL.out w2.heap.size _ (by first | exact Bel.drew (Bel.alloc0 _ _) | exact Bel.alloc (Bel.drew0 _) _) (by first | exact arr12 (Nat.le_refl _) rfl (Bel.rfl' _) | exact arr12 (Nat.le_refl _) rfl (Bel.drew0 _)) (Nat.le_refl _)).mono ?_; rintro e w4 ⟨hch, rfl, hArr⟩; have hB4 : Bel w2 w4 := hch.bel (by first | exact Bel.drew (Bel.alloc0 _ _) | exact Bel.alloc (Bel.drew0 _) _) (Nat.le_refl _)))
        obtain ⟨tag4, us4, hA4⟩ := hArr
        go_wp2_with fail
        go_loopw [33] (fun i wr => ∃ (k : Nat) (tag : Nat → Nat) (us : List Value), k ≤ 12 ∧ i = .int .i64 k ∧ Arr w2.heap.size w2.heap.size tag wr us (mixF F k) ∧ w4.heap.size ≤ wr.heap.size ∧ Bel w2 wr) (fun i _ => 12 - (intOf i).toNat)
        case atStart => exact ⟨0, tag4, us4, Nat.zero_le _, rfl, by rw [mixF_zero]; exact hA4, Nat.le_refl _, hB4⟩
        case round =>
          clear hA4
          obtain ⟨k, tag, us, hk, rfl, hA, hsz, hb⟩ := hrel
          by_cases hlt : k < 12
          · obtain ⟨au, cu, hcu, -, hfu, hUr⟩ := hA.cell k hlt
            rw [mixF_at] at hcu hUr
            have hUs := hUr.sl
            have hlt64 : (k : Int) < 12 := by omega
            have hsucc := mixF_succ F k
            have hlB : w2.heap.size < wr.heap.size := hA.2.1.lt rfl
            by_cases hst0 : F k = [-1 - (k : Int)]
            · have hsF : stayF F k = [] := by unfold stayF; rw [if_pos hst0]
              rw [hsF] at hsucc
              have HY := Lib.hid (l2Stay_y _ _ _ (F k) k wr hlt hst0 hUs)
              have HF := Lib.hid (And.intro hsucc hA)
              clear hst0 hsF hsucc hA hUr hUs
              generalize (F k).length = nk at *
              go_wp2_with fail
              refine HY.out.mono ?_; rintro e w6 ⟨rfl, hb6⟩
              have hcu6 := hb6.at hlB hcu
              have hfu6 := (World.frozen?_of_block (w := wr) (w' := w6) (a := ⟨w2.heap.size, k, none⟩) (hb6.block w2.heap.size hlB)).trans hfu
              go_wp2_with fail
              have hst := (HF.out.2.bel hb6).set k hlt (tag' := tag) (x := []) (u := .slice none 0 0) (fun _ _ _ _ h => h) (OwnT.nil _ _ _ _ _)
              rw [HF.out.1] at hst
              go_roundw
              case rel => exact ⟨k+1, tag, _, by omega, by go_num, hst, by have := hb6.size; simp; omega, (hb.step hb6).setCell (p := ⟨w2.heap.size, k, none⟩) (Nat.le_refl _) _⟩
              case measure => simp [intOf]; omega
            · have hsF : stayF F k = F k := by unfold stayF; rw [if_neg hst0]
              rw [hsF] at hsucc
              have HY := Lib.hid (l2Stay_n _ _ _ (F k) k wr hlt hst0 hUs)
              have HF := Lib.hid (And.intro hsucc (And.intro hA hUr))
              clear hst0 hsF hsucc hA hUr hUs
              generalize hnk : (F k).length = nk at *
              have HNK := Lib.hid hnk
              clear hnk
              go_wp2_with fail
              refine HY.out.mono ?_; rintro e w6 ⟨rfl, hb6⟩
              have hcu6 := hb6.at hlB hcu
              have hfu6 := (World.frozen?_of_block (w := wr) (w' := w6) (a := ⟨w2.heap.size, k, none⟩) (hb6.block w2.heap.size hlB)).trans hfu
              go_wp2_with fail
              have hst := (HF.out.2.1.bel hb6).set k hlt (tag' := tag) (x := F k) (fun _ _ _ _ h => h) (HF.out.2.2.bel hb6)
              rw [HF.out.1] at hst
              go_roundw
              case rel => exact ⟨k+1, tag, _, by omega, by go_num, hst, by have := hb6.size; simp; omega, (hb.step hb6).setCell (p := ⟨w2.heap.size, k, none⟩) (Nat.le_refl _) _⟩
              case measure => simp [intOf]; omega
          · obtain rfl : k = 12 := by omega
            have hO := hA.2.1
            have hI := hA.2.2
            rw [rawL_mix] at hI
            clear hA
            go_wp2_with fail
            go_ret2
            exact ⟨_, _, _, by rw [E2.out]; rfl, by rw [E.out]; exact (OwnS.of_tag hO hI (by omega)).mono (by omega) (Nat.le_refl _), (hb12.step hb).of_alloc⟩
end Go.Proofs.Ytikllmdmifecpaa
