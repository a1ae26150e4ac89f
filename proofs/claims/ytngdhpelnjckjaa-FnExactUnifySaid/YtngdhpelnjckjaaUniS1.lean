/- Unify: the reference's, one more term found. -/
import Derived.Test.YtngdhpelnjckjaaUniS0
import Derived.Test.YtngdhpelnjckjaaLeast
namespace Go.Proofs.Ytngdhpelnjckjaa
open Go.RowKit Go.Maps

set_option maxRecDepth 100000 in
set_option maxHeartbeats 1000000 in
theorem l2Bind_c (l h l2 h2 : Nat) (p q : Value) (F : Nat → List Int) (v : Nat) (u : List Int) (w : World) (hv : v < 12) (hp : SlS l h w p (rawL F)) (hF40 : ∀ v, (F v).length ≤ 40) (hlow : ∀ v i, i < (F v).length → -12 ≤ (F v).getD i 0) (hu40 : u.length ≤ 40) (hup : 0 < u.length) (hq : SlI l2 h2 w q u) :
    Calls Try.prog 146 #[p, .int .i64 v, q] w (RetOS w (nextF (-1 - (v : Int)) u F)) := by
  have hrl := rawL_len F
  obtain ⟨pa, pc, rfl⟩ := hp.form
  obtain ⟨qa, qc, rfl⟩ := hq.form
  have hmk := made12
  have hr1 := rep12 w
  have hc1 := hr1.cellAt v hv
  rw [List.getElem?_replicate, if_pos hv] at hc1
  have hf1 := hr1.frozenAt v
  have hone := one_sls w _ _ v _ u hv hq hup
  have hv64 : (v : Int) < 12 := by omega
  have hB1 : Bel w ((w.alloc (.cells (madeCells #[.slice none 0 0] 12) 24)).setCell ⟨w.heap.size, v, none⟩ (.slice qa u.length qc)) := (Bel.alloc0 w _).setCell (p := ⟨w.heap.size, v, none⟩) (Nat.le_refl _) _
  have hs1 : ((w.alloc (.cells (madeCells #[.slice none 0 0] 12) 24)).setCell ⟨w.heap.size, v, none⟩ (.slice qa u.length qc)).heap.size = w.heap.size + 1 := by simp
  clear hr1
  go_enter Try.func146, Try.ntmps146
  go_wp2_with fail
  rw [World.setCell_alloc_new] at hone hB1 hs1
  generalize hW : (w.alloc (.cells ((madeCells #[.slice none 0 0] 12).setIfInBounds v (.slice qa u.length qc)) 24)) = w2 at *
  have HW := Lib.hid hW
  clear hW hc1 hf1
  have hA0 : Arr w.heap.size (w.heap.size + 1) (fun _ => 2) (w2.alloc (.cells (madeCells #[.slice none 0 0] 12) 24)) (List.replicate 12 (Value.slice none 0 0)) (laidF (fun g => putFor (-1 - (v : Int)) u (F g)) 0) := by
    rw [laidF_zero]
    exact arr12 (by omega) hs1.symm (Bel.rfl' _)
  have hps := hp.below hB1
  have hqs := hq.below hB1
  have HP : Hid (∀ g, putFor (-1 - (v : Int)) u (F g) = (fun g => putFor (-1 - (v : Int)) u (F g)) g) := fun g => rfl
  generalize hP : (fun g => putFor (-1 - (v : Int)) u (F g)) = P at *
  go_loopw [18] (fun i wr => ∃ (j : Nat) (tag : Nat → Nat) (us : List Value), j ≤ 12 ∧ i = .int .i64 j ∧ Arr w.heap.size (w.heap.size + 1) tag wr us (laidF P j) ∧ Bel w2 wr) (fun i _ => 12 - (intOf i).toNat)
  case atStart => exact ⟨0, _, _, Nat.zero_le _, rfl, hA0, Bel.alloc0 _ _⟩
  case round =>
    clear hA0
    obtain ⟨j, tag, us, hj, rfl, hA, hb⟩ := hrel
    have hszr := hb.size
    by_cases hlt : j < 12
    · obtain ⟨bb, off, pj, rfl, -, hc, hpj⟩ := hps.at hb j (by omega)
      rw [rawL_get F j hlt] at hpj
      have hFl := hF40 j
      have hFlow := hlow j
      have hPj := HP.out j
      have hlt64 : (j : Int) < 12 := by omega
      obtain ⟨ap, cp, rfl⟩ := hpj.form
      by_cases hpos : 0 < (F j).length
      · have happ := oneF_app (v := v) (t := u) hv hup (F j)
        rw [hPj] at happ
        have hsucc := laidF_succ P j
        have HF := Lib.hid (And.intro happ (And.intro hsucc hA))
        clear happ hsucc hA
        go_wp2_with fail
        refine (l2Apply_r _ _ _ _ _ _ (rawL (oneF v u)) (F j) _ (rawL_len _) (oneF_lens hv hu40) (by omega) hFlow (hone.below hb) hpj).mono ?_; rintro e w4 ⟨ao, no, co, rfl, hX0, hb4⟩
        rw [HF.out.1] at hX0
        have hno : no = (P j).length := row_len hX0
        subst hno
        obtain ⟨tag1, hX, hT1⟩ := tag_new (tag := tag) (base := w.heap.size) (t := 10 + j) (xs := (P j).map (Value.int .i64)) (by simpa using hX0) hb4 (by omega)
        have hA4 := HF.out.2.2.all hT1
        obtain ⟨au, cu, hcu, -, hfu, hUr⟩ := hA4.cell j hlt
        go_wp2_with fail
        have hstp := hA4.set j hlt (fun _ _ _ _ h => h) hX
        rw [HF.out.2.1] at hstp
        refine ⟨?_, ?measure⟩
        iterate 90 (try apply Exists.intro)
        refine ⟨?rel, rfl⟩
        case rel => exact ⟨j+1, tag1, _, by omega, by go_num, hstp, (hb.step hb4).setCell (p := ⟨w.heap.size + 1, j, none⟩) (by simp; omega) _⟩
        case measure => simp [intOf]; omega
      · have h0 : (F j).length = 0 := by omega
        rw [h0] at hc
        have hPn : P j = [] := by rw [← hPj, len0 hpos]; rfl
        have hsucc := laidF_none P j hPn
        rw [hsucc] at hA
        clear hpj
        go_wp2_with fail
        go_roundw
        case rel => exact ⟨j+1, tag, us, by omega, by go_num, hA, hb⟩
        case measure => simp [intOf]; omega
    · obtain rfl : j = 12 := by omega
      have hend : rawL (upd (laidF P 12) v u) = rawL (nextF (-1 - (v : Int)) u F) := by
        apply rawL_congr
        intro g hg
        unfold nextF upd laidF
        rw [show (-1 - (-1 - (v : Int))).toNat = v by omega, ← hP]
        split
        · rfl
        · first | rfl | (rw [if_pos hg])
      have HF := Lib.hid (And.intro hend hA)
      clear hend hA
      go_wp2_with fail
      refine (l1Own_r _ _ _ u _ (by omega) (hqs.below hb)).mono ?_; rintro e w4 ⟨ao, no, co, rfl, hX0, hb4⟩
      have hno : no = u.length := row_len hX0
      subst hno
      obtain ⟨tag1, hX, hT1⟩ := tag_new (tag := tag) (base := w.heap.size) (t := 10 + v) (xs := u.map (Value.int .i64)) (by simpa using hX0) hb4 (by omega)
      have hA4 := HF.out.2.all hT1
      obtain ⟨au, cu, hcu, -, hfu, hUr⟩ := hA4.cell v hv
      go_wp2_with fail
      have hstp := hA4.set v hv (fun _ _ _ _ h => h) hX
      have hO := hstp.2.1
      have hI := hstp.2.2
      rw [HF.out.1] at hI
      go_ret
      exact ⟨_, rfl, OwnS.of_tag hO hI (by omega), (hB1.step (hb.step hb4)).setCell (p := ⟨w.heap.size + 1, v, none⟩) (by simp) _⟩
end Go.Proofs.Ytngdhpelnjckjaa
