import Derived.Test.YtngdhpelnjckjaaDepth
namespace Go.Proofs.Ytngdhpelnjckjaa
open Go.RowKit

/-- The table of depths: forty numbers, those from k on are done. -/
def DepTab (ar t : List Int) (w : World) (B k : Nat) : Prop :=
  B < w.heap.size ∧ (∀ j, j < 40 → ∃ x : Int, w.cell? ⟨B, j, none⟩ = some (.int .i64 x) ∧ w.frozen? ⟨B, j, none⟩ = false) ∧ ∀ j, k ≤ j → j < t.length → w.cell? ⟨B, j, none⟩ = some (.int .i64 (depthAt ar t j))

theorem tab_new (ar t : List Int) (w : World) (T : TypeId) (cs : Array Value) (hcs : cs = Array.replicate 40 (.int .i64 0)) : DepTab ar t (w.alloc (.cells cs T)) w.heap.size t.length := by
  subst hcs
  refine ⟨by simp, fun j hj => ⟨0, ?_, ?_⟩, fun j h1 h2 => by omega⟩
  · rw [World.cell?_alloc_new w]; simp [hj]
  · exact World.frozen?_alloc_at _ _ _ _ rfl
theorem DepTab.below {ar t : List Int} {w w' : World} {B k : Nat} (h : DepTab ar t w B k) (hb : Bel w w') : DepTab ar t w' B k := by
  obtain ⟨h1, h2, h3⟩ := h
  refine ⟨Nat.lt_of_lt_of_le h1 hb.size, fun j hj => ?_, fun j a b => hb.at h1 (h3 j a b)⟩
  obtain ⟨x, e1, e2⟩ := h2 j hj
  exact ⟨x, hb.at h1 e1, (hb.frozen (p := ⟨B, j, none⟩) h1).trans e2⟩
theorem DepTab.store {ar t : List Int} {w : World} {B k : Nat} (h : DepTab ar t w B (k+1)) (hk : k < 40) : DepTab ar t (w.setCell ⟨B, k, none⟩ (.int .i64 (depthAt ar t k))) B k := by
  obtain ⟨h1, h2, h3⟩ := h
  obtain ⟨x, e1, e2⟩ := h2 k hk
  have hne : ∀ j, j ≠ k → (⟨B, k, none⟩ : Addr) ≠ ⟨B, j, none⟩ := by intro j h1 h2; simp only [Addr.mk.injEq, and_true, true_and] at h2; omega
  refine ⟨by simpa using h1, fun j hj => ?_, fun j a b => ?_⟩
  · by_cases e : j = k
    · subst e; exact ⟨_, World.cell?_setCell_same _ _ _ e1, by rw [World.frozen?_setCell]; exact e2⟩
    · obtain ⟨y, f1, f2⟩ := h2 j hj
      exact ⟨y, by rw [World.cell?_setCell_other (h := hne j e)]; exact f1, by rw [World.frozen?_setCell]; exact f2⟩
  · by_cases e : j = k
    · subst e; exact World.cell?_setCell_same _ _ _ e1
    · rw [World.cell?_setCell_other (h := hne j e)]; exact h3 j (by omega) b

set_option maxRecDepth 100000 in
set_option maxHeartbeats 2000000 in
theorem iDepthOf_t {l h l' h' : Nat} {v u : Value} {ar t : List Int} {w : World} (ha : ar.length ≤ 1048576) (hv : SlI l h w v ar) (ht : t.length ≤ 1048576) (hu : SlI l' h' w u t) :
    Calls Try.prog 35 #[.agg #[v], u] w (RetV w (.tuple #[.int .i64 (depthAns ar t), .bool (goodTerm ar t)])) := by
  have hu0 := hu
  obtain ⟨ad, cap, rfl⟩ := hu.form
  cases hs : goodTerm ar t with
  | false =>
    have E := Lib.hid (depth_no hs)
    have HS := Lib.hid hs; clear hs
    go_enter Try.func35, Try.ntmps35
    go_wp2_with fail
    refine (iGoodTerm_v _ _ _ _ _ _ _ _ _ _ HS.out ha ht (hv.alloc _) (hu0.alloc _)).mono ?_; rintro e w' ⟨rfl, hb1⟩
    go_wp2_with fail
    go_ret2
    exact ⟨by rw [E.out]; rfl, hb1.of_alloc⟩
  | true =>
    have E := Lib.hid (depth_yes hs)
    obtain ⟨hg, hok⟩ := goodTerm_iff.1 hs
    have h1 := ((okTerm_iff ar t).1 hok).1
    have h2 := ((okTerm_iff ar t).1 hok).2.1
    have HS := Lib.hid hs; clear hs
    go_enter Try.func35, Try.ntmps35
    go_wp2_with fail
    refine (iGoodTerm_v _ _ _ _ _ _ _ _ _ _ HS.out ha ht (hv.alloc _) (hu0.alloc _)).mono ?_; rintro e w1 ⟨rfl, hb1⟩
    have hx1 := boxc hb1 0 _ rfl
    go_wp2_with fail
    go_loopw [7] (fun a wr => ∃ k : Nat, k ≤ t.length ∧ a = .int .i64 ((k : Int) - 1) ∧ DepTab ar t wr w1.heap.size k ∧ Bel w1 wr) (fun a _ => (intOf a + 1).toNat)
    case atStart => exact ⟨t.length, Nat.le_refl _, rfl, tab_new ar t w1 _ _ rfl, Bel.alloc0 _ _⟩
    case round =>
      obtain ⟨k, hk, rfl, htab, hbr⟩ := hrel
      have hxr := boxc (hb1.step hbr) 0 _ rfl
      cases k with
      | zero =>
        have hc0 := htab.2.2 0 (Nat.le_refl _) (by omega)
        have hz : decide (((0 : Nat) : Int) - 1 ≥ 0) = false := by simp
        clear htab
        go_wp2_with fail
        go_ret2
        exact ⟨by rw [E.out]; rfl, hb1.of_alloc.step hbr⟩
      | succ k =>
        rw [show ((k + 1 : Nat) : Int) - 1 = (k : Int) from by omega]
        have ED := Lib.hid (depthAt_eq ar t hok k (by omega))
        have HA := Lib.hid (argsOf_bd ar t hok k (by omega))
        have hal : (argsOf ar t k).length ≤ 3 := by rw [argsOf_len]; exact arOf_le ar hg _
        go_wp2_with fail
        refine (argStarts_c _ _ _ _ _ _ ar t k _ hg hok (by omega) (hv.below (hb1.of_alloc.step hbr)) (hu0.below (hb1.of_alloc.step hbr))).mono ?_; rintro e w2 ⟨ad2, m, c, rfl, ho, hb2⟩
        obtain ⟨ad', cap', e, -, -, hr⟩ := ho.1
        simp only [Value.slice.injEq] at e
        obtain ⟨rfl, rfl, rfl⟩ := e
        rw [natsI_len] at hr ⊢
        have htab2 := htab.below hb2
        have hbr2 := hbr.step hb2
        clear htab hbr
        generalize argsOf ar t k = args at *
        go_wp2_with fail
        go_loop [8, 27] (fun d j => ∃ i : Nat, i ≤ args.length ∧ j = .int .i64 i ∧ d = .int .i64 (maxL 0 ((args.take i).map (depthAt ar t)))) (fun _ j => args.length - (intOf j).toNat)
        case atStart => exact ⟨0, Nat.zero_le _, rfl, rfl⟩
        case round =>
          obtain ⟨i, hi, rfl, rfl⟩ := hrel
          have hml := maxD_le ar t (args.take i)
          by_cases hlt : i < args.length
          · obtain ⟨b, off, e2, -, -, hc⟩ := hr (by omega)
            subst e2
            have hcell := hc i hlt
            rw [natsI_get _ _ hlt] at hcell
            have hmem : args.getD i 0 ∈ args := by simp [List.getD, hlt]
            have hab := HA.out _ hmem
            have E2 := Lib.hid (maxL_step (depthAt ar t) args i hlt)
            have hcd := htab2.2.2 (args.getD i 0) (by omega) (by omega)
            clear hr hc hmem
            generalize args.getD i 0 = a at *
            generalize maxL 0 ((args.take i).map (depthAt ar t)) = mm at *
            have ha40 : (a : Int) < 40 := by omega
            have hdl := depthAt_le ar t a
            go_wp2_with fail
            go_round
            case rel => exact ⟨i+1, by omega, by go_num, by rw [E2.out]; simp; split <;> omega⟩
            case measure => simp [intOf]; omega
          · have E3 := ED.out
            rw [← show args.take i = args from List.take_of_length_le (by omega)] at E3
            generalize maxL 0 ((args.take i).map (depthAt ar t)) = mm at *
            have E2 := Lib.hid E3; clear E3
            obtain ⟨x, hcx, hfx⟩ := htab2.2.1 k (by omega)
            have hst := htab2.store (by omega)
            have HST := Lib.hid hst
            have hbs := hbr2.set (p := ⟨w1.heap.size, k, none⟩) (Nat.le_refl _) (.int .i64 (depthAt ar t k))
            have hk40 : (k : Int) < 40 := by omega
            rw [E2.out] at HST hbs
            clear hr hst htab2
            go_wp2_with fail
            go_roundw
            case rel => exact ⟨k, by omega, by go_num, by simpa using HST.out, by simpa using hbs⟩
            case measure => simp [intOf]
end Go.Proofs.Ytngdhpelnjckjaa
