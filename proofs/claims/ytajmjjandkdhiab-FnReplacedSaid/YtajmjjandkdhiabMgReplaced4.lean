/- Texts merged, part 4. -/
import Derived.Test.YtajmjjandkdhiabMgReplaced3
section
/- DepthOf: both functions. -/
namespace Go.Proofs.Ytajmjjandkdhiab
open Go.RowKit

/-- The greatest of some numbers, from m on. -/
def maxL (m : Nat) : List Nat → Nat
  | [] => m
  | x :: l => maxL (max m x) l
theorem maxL_snoc (m : Nat) (l : List Nat) (x : Nat) : maxL m (l ++ [x]) = max (maxL m l) x := by
  induction l generalizing m with
  | nil => rfl
  | cons y l ih => exact ih _
theorem maxL_le (m n : Nat) (l : List Nat) (hm : m ≤ n) (h : ∀ x ∈ l, x ≤ n) : maxL m l ≤ n := by
  induction l generalizing m with
  | nil => exact hm
  | cons y l ih => exact ih _ (by have := h y (by simp); omega) (fun x hx => h x (by simp [hx]))

def depthF (ar t : List Int) : Nat → Nat → Nat
  | 0, _ => 0
  | f + 1, i => 1 + maxL 0 ((argsOf ar t i).map (depthF ar t f))
/-- The depth of the subterm at i. -/
def depthAt (ar t : List Int) (i : Nat) : Nat := depthF ar t (t.length - i) i

theorem argsGo_bd (ar t : List Int) : ∀ (k p e : Nat), endGo ar (t.drop p) k p = some e → ∀ a ∈ argsGo ar t k p, p ≤ a ∧ a < e := by
  intro k
  induction k with
  | zero => intro p e _ a ha; simp [argsGo] at ha
  | succ k ih =>
    intro p e h a ha
    obtain ⟨q, hq, hr, hpq, hqe⟩ := ends_step ar t p k e h
    rw [argsGo_succ hq] at ha
    rcases List.mem_cons.1 ha with rfl | ha
    · omega
    · have := ih q e hr a ha; omega
theorem argsOf_bd (ar t : List Int) (h : okTerm ar t = true) (i : Nat) (hi : i < t.length) : ∀ a ∈ argsOf ar t i, i < a ∧ a < t.length := by
  obtain ⟨e, h1, h2⟩ := good_args ar t h i hi
  intro a ha
  have := argsGo_bd ar t _ _ _ h1 a ha
  omega
theorem depthF_fuel (ar t : List Int) (h : okTerm ar t = true) : ∀ (n i : Nat), i < t.length → t.length - i ≤ n → ∀ f, t.length - i ≤ f → depthF ar t f i = depthAt ar t i := by
  intro n
  induction n with
  | zero => intro i hi hn; omega
  | succ n ih =>
    intro i hi hn f hf
    obtain ⟨f, rfl⟩ : ∃ f', f = f' + 1 := ⟨f - 1, by omega⟩
    unfold depthAt
    obtain ⟨g, hg⟩ : ∃ g, t.length - i = g + 1 := ⟨t.length - i - 1, by omega⟩
    rw [hg, depthF, depthF]
    congr 2
    apply List.map_congr_left
    intro a ha
    have hb := argsOf_bd ar t h i hi a ha
    rw [ih a hb.2 (by omega) f (by omega), ih a hb.2 (by omega) g (by omega)]
theorem depthAt_eq (ar t : List Int) (h : okTerm ar t = true) (i : Nat) (hi : i < t.length) : depthAt ar t i = 1 + maxL 0 ((argsOf ar t i).map (depthAt ar t)) := by
  conv => lhs; unfold depthAt
  obtain ⟨g, hg⟩ : ∃ g, t.length - i = g + 1 := ⟨t.length - i - 1, by omega⟩
  rw [hg, depthF]
  congr 2
  apply List.map_congr_left
  intro a ha
  have hb := argsOf_bd ar t h i hi a ha
  exact depthF_fuel ar t h t.length a hb.2 (by omega) g (by omega)
theorem depthF_le (ar t : List Int) : ∀ f i, depthF ar t f i ≤ f := by
  intro f
  induction f with
  | zero => intro i; exact Nat.le_refl _
  | succ f ih =>
    intro i
    rw [depthF]
    have := maxL_le 0 f ((argsOf ar t i).map (depthF ar t f)) (Nat.zero_le _) (by intro x hx; simp at hx; obtain ⟨a, _, rfl⟩ := hx; exact ih a)
    omega
theorem depthAt_le (ar t : List Int) (i : Nat) : depthAt ar t i ≤ t.length := Nat.le_trans (depthF_le ar t _ i) (by omega)

theorem maxD_le (ar t : List Int) (l : List Nat) : maxL 0 (l.map (depthAt ar t)) ≤ t.length :=
  maxL_le 0 t.length _ (Nat.zero_le _) (by intro x hx; rw [List.mem_map] at hx; obtain ⟨a, _, rfl⟩ := hx; exact depthAt_le ar t a)
theorem l1Most_c (a b : Nat) (w : World) : Calls Try.prog 66 #[.int .i64 a, .int .i64 b] w (RetV w (.int .i64 ((max a b : Nat) : Int))) := by
  by_cases h : b < a
  · have E : Hid (max a b = a) := by show max a b = a; omega
    go_enter Try.func66, Try.ntmps66
    go_wp2_with fail
    go_ret
    exact ⟨by rw [E.out]; rfl, Bel.rfl' _⟩
  · have E : Hid (max a b = b) := by show max a b = b; omega
    go_enter Try.func66, Try.ntmps66
    go_wp2_with fail
    go_ret
    exact ⟨by rw [E.out]; rfl, Bel.rfl' _⟩

theorem natsI_get (l : List Nat) (k : Nat) (h : k < l.length) : (natsI l).getD k 0 = ((l.getD k 0 : Nat) : Int) := by simp [natsI, List.getD, h]
theorem maxL_step (d : Nat → Nat) (l : List Nat) (k : Nat) (h : k < l.length) : maxL 0 ((l.take (k+1)).map d) = max (maxL 0 ((l.take k).map d)) (d (l.getD k 0)) := by
  rw [List.take_succ_eq_append_getElem h, List.map_append]
  simp only [List.map_cons, List.map_nil]
  rw [maxL_snoc]
  simp [List.getD, h]

set_option maxRecDepth 100000 in
set_option maxHeartbeats 1000000 in
theorem l1Depth_c (l h l' h' : Nat) (v u : Value) (ar t : List Int) (hg : goodSign ar = true) (hok : okTerm ar t = true) :
    ∀ (n i : Nat) (w : World), t.length - i ≤ n → i < t.length → SlI l h w v ar → SlI l' h' w u t → Calls Try.prog 59 #[.agg #[v], u, .int .i64 i] w (RetV w (.int .i64 (depthAt ar t i))) := by
  intro n
  induction n with
  | zero => intro i w hn hi; omega
  | succ n ih =>
    intro i w hn hi hv hu
    have IH := Lib.hid ih; clear ih
    have E := Lib.hid (depthAt_eq ar t hok i hi)
    have HA := Lib.hid (argsOf_bd ar t hok i hi)
    have hal : (argsOf ar t i).length ≤ 3 := by rw [argsOf_len]; exact arOf_le ar hg _
    have htl := ((okTerm_iff ar t).1 hok).2.1
    go_enter Try.func59, Try.ntmps59
    go_wp2_with fail
    refine (l1Args_c _ _ _ _ _ _ ar t i _ hg hok hi (hv.alloc _) (hu.alloc _)).mono ?_; rintro e w1 ⟨ad, m, c, rfl, ho, hb⟩
    obtain ⟨ad', cap', e, -, -, hr⟩ := ho.1
    simp only [Value.slice.injEq] at e
    obtain ⟨rfl, rfl, rfl⟩ := e
    rw [natsI_len] at hr ⊢
    generalize argsOf ar t i = args at *
    go_wp2_with fail
    go_loopw [7, 15] (fun m j wr => ∃ k : Nat, k ≤ args.length ∧ j = .int .i64 k ∧ m = .int .i64 (maxL 0 ((args.take k).map (depthAt ar t))) ∧ Bel (w.alloc (.cells #[v] 28)) wr ∧ Bel w1 wr) (fun _ j _ => args.length - (intOf j).toNat)
    case atStart => exact ⟨0, Nat.zero_le _, rfl, rfl, hb, Bel.rfl' _⟩
    case round =>
      obtain ⟨k, hk, rfl, rfl, hbr, hbw⟩ := hrel
      have hbox := boxc hbr 0 _ rfl
      have hml := maxD_le ar t (args.take k)
      by_cases hlt : k < args.length
      · obtain ⟨b, off, e2, -, -, hc⟩ := hr (by omega)
        subst e2
        have hcell := (hbw.cell (p := ⟨b, off + k, none⟩) (World.block_lt_of_cell? w1 ⟨b, off + k, none⟩ (hc k hlt))).trans (hc k hlt)
        rw [natsI_get _ _ hlt] at hcell
        have hmem : args.getD k 0 ∈ args := by simp [List.getD, hlt]
        have hab := HA.out _ hmem
        have E2 := Lib.hid (maxL_step (depthAt ar t) args k hlt)
        clear hr hc hmem
        generalize args.getD k 0 = a at *
        generalize maxL 0 ((args.take k).map (depthAt ar t)) = mm at *
        go_wp2_with fail
        refine (IH.out a _ (by omega) hab.2 (hv.below hbr.of_alloc) (hu.below hbr.of_alloc)).mono ?_; rintro e w2 ⟨rfl, hb2⟩
        go_wp2_with fail
        refine (l1Most_c mm (depthAt ar t a) _).mono ?_; rintro e w3 ⟨rfl, hb3⟩
        go_wp2_with fail
        go_roundw
        case rel => exact ⟨k+1, by omega, by go_num, by rw [E2.out], (hbr.step hb2).step hb3, (hbw.step hb2).step hb3⟩
        case measure => simp [intOf]; omega
      · have E3 := E.out
        rw [← show args.take k = args from List.take_of_length_le (by omega)] at E3
        generalize maxL 0 ((args.take k).map (depthAt ar t)) = mm at *
        have E2 := Lib.hid E3; clear E3
        go_wp2_with fail
        go_ret
        exact ⟨by rw [E2.out]; simp [Int.add_comm], hbr.of_alloc⟩

def depthAns (ar t : List Int) : Int := if goodTerm ar t then depthAt ar t 0 else 0
theorem depth_no {ar t : List Int} (h : goodTerm ar t = false) : depthAns ar t = 0 := by simp [depthAns, h]
theorem depth_yes {ar t : List Int} (h : goodTerm ar t = true) : depthAns ar t = depthAt ar t 0 := by simp [depthAns, h]

theorem sDepthOf_t {l h l' h' : Nat} {v u : Value} {ar t : List Int} {w : World} (ha : ar.length ≤ 1048576) (hv : SlI l h w v ar) (ht : t.length ≤ 1048576) (hu : SlI l' h' w u t) :
    Calls Try.prog 35 #[.agg #[v], u] w (RetV w (.tuple #[.int .i64 (depthAns ar t), .bool (goodTerm ar t)])) := by
  cases hs : goodTerm ar t with
  | false =>
    have E := Lib.hid (depth_no hs)
    have HS := Lib.hid hs; clear hs
    go_enter Try.func35, Try.ntmps35
    go_wp2_with fail
    refine (sGoodTerm_v _ _ _ _ _ _ _ _ _ _ HS.out ha ht (hv.alloc _) (hu.alloc _)).mono ?_; rintro e w' ⟨rfl, hb1⟩
    go_wp2_with fail
    go_ret2
    exact ⟨by rw [E.out]; rfl, hb1.of_alloc⟩
  | true =>
    have E := Lib.hid (depth_yes hs)
    obtain ⟨hg, hok⟩ := goodTerm_iff.1 hs
    have h1 := ((okTerm_iff ar t).1 hok).1
    have HS := Lib.hid hs; clear hs
    go_enter Try.func35, Try.ntmps35
    go_wp2_with fail
    refine (sGoodTerm_v _ _ _ _ _ _ _ _ _ _ HS.out ha ht (hv.alloc _) (hu.alloc _)).mono ?_; rintro e w' ⟨rfl, hb1⟩
    have hx1 := boxc hb1 0 _ rfl
    go_wp2_with fail
    refine (l1Depth_c _ _ _ _ _ _ ar t hg hok t.length 0 _ (by omega) (by omega) (hv.below hb1.of_alloc) (hu.below hb1.of_alloc)).mono ?_; rintro e w2 ⟨rfl, hb2⟩
    go_wp2_with fail
    go_ret2
    exact ⟨by rw [E.out]; rfl, hb1.of_alloc.step hb2⟩
end Go.Proofs.Ytajmjjandkdhiab
end
section
namespace Go.Proofs.Ytajmjjandkdhiab
open Go.RowKit

/-- The table of depths: forty numbers, those from k on are done. -/
def DepTab (ar t : List Int) (w : World) (B k : Nat) : Prop :=
  B < w.heap.size ∧ (∀ j, j < 40 → ∃ x : Int, w.cell? ⟨B, j, none⟩ = some (.int .i64 x) ∧ w.frozen? ⟨B, j, none⟩ = false) ∧ ∀ j, k ≤ j → j < t.length → w.cell? ⟨B, j, none⟩ = some (.int .i64 (depthAt ar t j))

theorem tab_new (ar t : List Int) (w : World) (T : TypeId) (cs : Array Value) (hcs : cs = Array.replicate 40 (.int .i64 0)) : DepTab ar t (w.alloc (.cells cs T)) w.heap.size t.length := by
  subst hcs
  refine ⟨by simp, fun j hj => ⟨0, ?_, ?_⟩, fun j h1 h2 => by omega⟩
  · rw [World.cell?_alloc_new w]; simp [hj]
  · exact World.frozen?_alloc_at _ _ _ _ rfl
theorem DepTab.below {ar t : List Int} {w w' : World} {B k : Nat} (h : DepTab ar t w B k) (hb : Bel w w') : DepTab ar t w' B k := by
  obtain ⟨h1, h2, h3⟩ := h
  refine ⟨Nat.lt_of_lt_of_le h1 hb.size, fun j hj => ?_, fun j a b => hb.at h1 (h3 j a b)⟩
  obtain ⟨x, e1, e2⟩ := h2 j hj
  exact ⟨x, hb.at h1 e1, (hb.frozen (p := ⟨B, j, none⟩) h1).trans e2⟩
theorem DepTab.store {ar t : List Int} {w : World} {B k : Nat} (h : DepTab ar t w B (k+1)) (hk : k < 40) : DepTab ar t (w.setCell ⟨B, k, none⟩ (.int .i64 (depthAt ar t k))) B k := by
  obtain ⟨h1, h2, h3⟩ := h
  obtain ⟨x, e1, e2⟩ := h2 k hk
  have hne : ∀ j, j ≠ k → (⟨B, k, none⟩ : Addr) ≠ ⟨B, j, none⟩ := by intro j h1 h2; simp only [Addr.mk.injEq, and_true, true_and] at h2; omega
  refine ⟨by simpa using h1, fun j hj => ?_, fun j a b => ?_⟩
  · by_cases e : j = k
    · subst e; exact ⟨_, World.cell?_setCell_same _ _ _ e1, by rw [World.frozen?_setCell]; exact e2⟩
    · obtain ⟨y, f1, f2⟩ := h2 j hj
      exact ⟨y, by rw [World.cell?_setCell_other (h := hne j e)]; exact f1, by rw [World.frozen?_setCell]; exact f2⟩
  · by_cases e : j = k
    · subst e; exact World.cell?_setCell_same _ _ _ e1
    · rw [World.cell?_setCell_other (h := hne j e)]; exact h3 j (by omega) b

set_option maxRecDepth 100000 in
set_option maxHeartbeats 2000000 in
theorem iDepthOf_t {l h l' h' : Nat} {v u : Value} {ar t : List Int} {w : World} (ha : ar.length ≤ 1048576) (hv : SlI l h w v ar) (ht : t.length ≤ 1048576) (hu : SlI l' h' w u t) :
    Calls Try.prog 34 #[.agg #[v], u] w (RetV w (.tuple #[.int .i64 (depthAns ar t), .bool (goodTerm ar t)])) := by
  have hu0 := hu
  obtain ⟨ad, cap, rfl⟩ := hu.form
  cases hs : goodTerm ar t with
  | false =>
    have E := Lib.hid (depth_no hs)
    have HS := Lib.hid hs; clear hs
    go_enter Try.func34, Try.ntmps34
    go_wp2_with fail
    refine (iGoodTerm_v _ _ _ _ _ _ _ _ _ _ HS.out ha ht (hv.alloc _) (hu0.alloc _)).mono ?_; rintro e w' ⟨rfl, hb1⟩
    go_wp2_with fail
    go_ret2
    exact ⟨by rw [E.out]; rfl, hb1.of_alloc⟩
  | true =>
    have E := Lib.hid (depth_yes hs)
    obtain ⟨hg, hok⟩ := goodTerm_iff.1 hs
    have h1 := ((okTerm_iff ar t).1 hok).1
    have h2 := ((okTerm_iff ar t).1 hok).2.1
    have HS := Lib.hid hs; clear hs
    go_enter Try.func34, Try.ntmps34
    go_wp2_with fail
    refine (iGoodTerm_v _ _ _ _ _ _ _ _ _ _ HS.out ha ht (hv.alloc _) (hu0.alloc _)).mono ?_; rintro e w1 ⟨rfl, hb1⟩
    have hx1 := boxc hb1 0 _ rfl
    go_wp2_with fail
    go_loopw [7] (fun a wr => ∃ k : Nat, k ≤ t.length ∧ a = .int .i64 ((k : Int) - 1) ∧ DepTab ar t wr w1.heap.size k ∧ Bel w1 wr) (fun a _ => (intOf a + 1).toNat)
    case atStart => exact ⟨t.length, Nat.le_refl _, rfl, tab_new ar t w1 _ _ rfl, Bel.alloc0 _ _⟩
    case round =>
      obtain ⟨k, hk, rfl, htab, hbr⟩ := hrel
      have hxr := boxc (hb1.step hbr) 0 _ rfl
      cases k with
      | zero =>
        have hc0 := htab.2.2 0 (Nat.le_refl _) (by omega)
        have hz : decide (((0 : Nat) : Int) - 1 ≥ 0) = false := by simp
        clear htab
        go_wp2_with fail
        go_ret2
        exact ⟨by rw [E.out]; rfl, hb1.of_alloc.step hbr⟩
      | succ k =>
        rw [show ((k + 1 : Nat) : Int) - 1 = (k : Int) from by omega]
        have ED := Lib.hid (depthAt_eq ar t hok k (by omega))
        have HA := Lib.hid (argsOf_bd ar t hok k (by omega))
        have hal : (argsOf ar t k).length ≤ 3 := by rw [argsOf_len]; exact arOf_le ar hg _
        go_wp2_with fail
        refine (argStarts_c _ _ _ _ _ _ ar t k _ hg hok (by omega) (hv.below (hb1.of_alloc.step hbr)) (hu0.below (hb1.of_alloc.step hbr))).mono ?_; rintro e w2 ⟨ad2, m, c, rfl, ho, hb2⟩
        obtain ⟨ad', cap', e, -, -, hr⟩ := ho.1
        simp only [Value.slice.injEq] at e
        obtain ⟨rfl, rfl, rfl⟩ := e
        rw [natsI_len] at hr ⊢
        have htab2 := htab.below hb2
        have hbr2 := hbr.step hb2
        clear htab hbr
        generalize argsOf ar t k = args at *
        go_wp2_with fail
        go_loop [8, 27] (fun d j => ∃ i : Nat, i ≤ args.length ∧ j = .int .i64 i ∧ d = .int .i64 (maxL 0 ((args.take i).map (depthAt ar t)))) (fun _ j => args.length - (intOf j).toNat)
        case atStart => exact ⟨0, Nat.zero_le _, rfl, rfl⟩
        case round =>
          obtain ⟨i, hi, rfl, rfl⟩ := hrel
          have hml := maxD_le ar t (args.take i)
          by_cases hlt : i < args.length
          · obtain ⟨b, off, e2, -, -, hc⟩ := hr (by omega)
            subst e2
            have hcell := hc i hlt
            rw [natsI_get _ _ hlt] at hcell
            have hmem : args.getD i 0 ∈ args := by simp [List.getD, hlt]
            have hab := HA.out _ hmem
            have E2 := Lib.hid (maxL_step (depthAt ar t) args i hlt)
            have hcd := htab2.2.2 (args.getD i 0) (by omega) (by omega)
            clear hr hc hmem
            generalize args.getD i 0 = a at *
            generalize maxL 0 ((args.take i).map (depthAt ar t)) = mm at *
            have ha40 : (a : Int) < 40 := by omega
            have hdl := depthAt_le ar t a
            go_wp2_with fail
            go_round
            case rel => exact ⟨i+1, by omega, by go_num, by rw [E2.out]; simp; split <;> omega⟩
            case measure => simp [intOf]; omega
          · have E3 := ED.out
            rw [← show args.take i = args from List.take_of_length_le (by omega)] at E3
            generalize maxL 0 ((args.take i).map (depthAt ar t)) = mm at *
            have E2 := Lib.hid E3; clear E3
            obtain ⟨x, hcx, hfx⟩ := htab2.2.1 k (by omega)
            have hst := htab2.store (by omega)
            have HST := Lib.hid hst
            have hbs := hbr2.set (p := ⟨w1.heap.size, k, none⟩) (Nat.le_refl _) (.int .i64 (depthAt ar t k))
            have hk40 : (k : Int) < 40 := by omega
            rw [E2.out] at HST hbs
            clear hr hst htab2
            go_wp2_with fail
            go_roundw
            case rel => exact ⟨k, by omega, by go_num, by simpa using HST.out, by simpa using hbs⟩
            case measure => simp [intOf]
end Go.Proofs.Ytajmjjandkdhiab
end
section
/- Replaced: what replacing does. -/
namespace Go.Proofs.Ytajmjjandkdhiab
open Go.RowKit

theorem repl_part {ar t : List Int} {z : Int} (h : askOk ar t z = true) :
    replOk ar t z (partAns ar t z) = true ∧ replAns ar t z (partAns ar t z) = t ∧ endN ar t z = z + (partAns ar t z).length ∧ goodTerm ar (partAns ar t z) = true ∧ (partAns ar t z).length ≤ 40 := by
  obtain ⟨k, e, rfl, hk, he, hke, het, h40, hg, hok⟩ := ask_yes h
  have hp := partAns_yes h he
  have hpo := partOf_ok ar t k e hok hk he
  have hlen := partOf_len t k e het
  have hre : replIn ar t k (partOf t k e) = t := by rw [replIn_eq he, replaced_self t k e (by omega)]
  have hro : replOk ar t k (partOf t k e) = true := by unfold replOk; rw [h, hpo, hre, hok]; rfl
  rw [hp]
  refine ⟨hro, by rw [repl_yes hro, hre], ?_, by unfold goodTerm; rw [hg, hpo]; rfl, by omega⟩
  have : endN ar t k = e := by simp [endN, h, endI, he]
  rw [this]
  omega
theorem part_repl {ar t u : List Int} {z : Int} (h : replOk ar t z u = true) :
    askOk ar (replAns ar t z u) z = true ∧ partAns ar (replAns ar t z u) z = u ∧ ((replAns ar t z u).length : Int) = t.length - (partAns ar t z).length + u.length := by
  have h0 := h
  unfold replOk at h0
  simp only [Bool.and_eq_true] at h0
  obtain ⟨⟨ha, hu⟩, hr⟩ := h0
  obtain ⟨k, e, rfl, hk, he, hke, het, h40, hg, hok⟩ := ask_yes ha
  have hp := partAns_yes ha he
  have hlen := partOf_len t k e het
  have hre := replIn_eq (ar := ar) (u := u) he
  have hr2 : okTerm ar (replaced t k e u) = true := by rw [← hre]; exact hr
  rw [repl_yes h, hre]
  have hrl := replaced_len t u k e (by omega) het
  have hu1 := ((okTerm_iff ar u).1 hu).1
  have hask : askOk ar (replaced t k e u) k = true := askOk_iff.2 ⟨by unfold goodTerm; rw [hg, hr2]; rfl, by omega, by omega⟩
  have hdrop : (replaced t k e u).drop k = u ++ t.drop e := by
    unfold replaced
    rw [List.append_assoc]
    have : (t.take k).length = k := by simp; omega
    rw [List.drop_append_of_le_length (by omega), List.drop_eq_nil_of_le (by omega), List.nil_append]
  have hend : endOf ar (replaced t k e u) k = some (k + u.length) := by
    unfold endOf
    rw [hdrop]
    have h4 := ((okTerm_iff ar u).1 hu).2.2
    unfold endOf at h4
    rw [List.drop_zero] at h4
    have h5 := endGo_shift ar (u ++ t.drop e) 1 0 k
    rw [Nat.zero_add, endGo_ext ar u _ _ _ _ h4] at h5
    rw [h5]; simp; omega
  refine ⟨hask, ?_, by rw [hrl, hp, hlen]; omega⟩
  rw [partAns_yes hask hend]
  unfold partOf
  rw [hdrop, show k + u.length - k = u.length by omega, List.take_left']
  rfl
theorem depthAns_le (ar t : List Int) : depthAns ar t ≤ t.length := by
  unfold depthAns
  split
  · have := depthAt_le ar t 0; omega
  · omega
end Go.Proofs.Ytajmjjandkdhiab
end
section
/- CountOf, ShiftVars: both functions. -/
namespace Go.Proofs.Ytajmjjandkdhiab
open Go.RowKit

def cntI (t : List Int) (n : Int) : Nat := (t.filter (· == n)).length
theorem cntI_le (t : List Int) (n : Int) : cntI t n ≤ t.length := List.length_filter_le _ _
theorem cntI_yes (t : List Int) (n : Int) (k : Nat) (hk : k < t.length) (h : t.getD k 0 = n) : cntI (t.take (k+1)) n = cntI (t.take k) n + 1 := by
  unfold cntI
  rw [List.take_succ_eq_append_getElem hk, List.filter_append, List.length_append]
  have : (t[k] == n) = true := by simp [List.getD, hk] at h; simp [h]
  simp [List.filter_cons, this]
theorem cntI_no (t : List Int) (n : Int) (k : Nat) (hk : k < t.length) (h : t.getD k 0 ≠ n) : cntI (t.take (k+1)) n = cntI (t.take k) n := by
  unfold cntI
  rw [List.take_succ_eq_append_getElem hk, List.filter_append, List.length_append]
  have : (t[k] == n) = false := by simp [List.getD, hk] at h; simp [h]
  simp [List.filter_cons, this]

theorem l1Count_c (l h : Nat) (v : Value) (t : List Int) (n : Int) (w : World) (ht : t.length ≤ 1048576) (hv : SlI l h w v t) :
    Calls Try.prog 58 #[v, .int .i64 n] w (RetV w (.int .i64 (cntI t n))) := by
  obtain ⟨ad, cap, rfl, -, -, hr⟩ := hv
  go_enter Try.func58, Try.ntmps58
  go_wp2_with fail
  go_loop [5, 10] (fun m i => ∃ k : Nat, k ≤ t.length ∧ i = .int .i64 k ∧ m = .int .i64 (cntI (t.take k) n)) (fun _ i => t.length - (intOf i).toNat)
  case atStart => exact ⟨0, Nat.zero_le _, rfl, rfl⟩
  case round =>
    obtain ⟨k, hk, rfl, rfl⟩ := hrel
    have hle : cntI (t.take k) n ≤ k := by have := cntI_le (t.take k) n; simp at this; omega
    by_cases hlt : k < t.length
    · obtain ⟨b, off, rfl, -, hcell⟩ := rd hr (Bel.rfl' w) k hlt
      have E1 := Lib.hid (cntI_yes t n k hlt)
      have E2 := Lib.hid (cntI_no t n k hlt)
      clear hr
      generalize t.getD k 0 = x at *
      generalize cntI (t.take k) n = m at *
      by_cases hx : x = n
      · have E := Lib.hid (E1.out hx)
        have hx' : (x == n) = true := by simpa using hx
        clear hx E1 E2
        go_wp2_with fail
        go_round
        case rel => exact ⟨k+1, by omega, by go_num, by rw [E.out]; go_num⟩
        case measure => simp [intOf]; omega
      · have E := Lib.hid (E2.out hx)
        have hx' : (x == n) = false := by simpa using hx
        clear hx E1 E2
        go_wp2_with fail
        go_round
        case rel => exact ⟨k+1, by omega, by go_num, by rw [E.out]⟩
        case measure => simp [intOf]; omega
    · have E := Lib.hid (show t.take k = t from List.take_of_length_le (by omega))
      go_wp2_with fail
      go_ret
      exact ⟨by rw [E.out]; rfl, Bel.rfl' _⟩

def countAns (ar t : List Int) (n : Int) : Int := if goodTerm ar t then cntI t n else 0
theorem count_no {ar t : List Int} {n : Int} (h : goodTerm ar t = false) : countAns ar t n = 0 := by simp [countAns, h]
theorem count_yes {ar t : List Int} {n : Int} (h : goodTerm ar t = true) : countAns ar t n = cntI t n := by simp [countAns, h]

theorem sCountOf_t {l h l' h' : Nat} {v u : Value} {ar t : List Int} {w : World} (ha : ar.length ≤ 1048576) (hv : SlI l h w v ar) (ht : t.length ≤ 1048576) (hu : SlI l' h' w u t) {i : Int} (_ : -9223372036854775808 ≤ i) (_ : i ≤ 9223372036854775807) :
    Calls Try.prog 33 #[.agg #[v], u, .int .i64 i] w (RetV w (.tuple #[.int .i64 (countAns ar t i), .bool (goodTerm ar t)])) := by
  cases hs : goodTerm ar t with
  | false =>
    have E := Lib.hid (count_no (n := i) hs)
    have HS := Lib.hid hs; clear hs
    go_enter Try.func33, Try.ntmps33
    go_wp2_with fail
    refine (sGoodTerm_v _ _ _ _ _ _ _ _ _ _ HS.out ha ht (hv.alloc _) (hu.alloc _)).mono ?_; rintro e w' ⟨rfl, hb1⟩
    go_wp2_with fail
    go_ret2
    exact ⟨by rw [E.out]; rfl, hb1.of_alloc⟩
  | true =>
    have E := Lib.hid (count_yes (n := i) hs)
    have HS := Lib.hid hs; clear hs
    go_enter Try.func33, Try.ntmps33
    go_wp2_with fail
    refine (sGoodTerm_v _ _ _ _ _ _ _ _ _ _ HS.out ha ht (hv.alloc _) (hu.alloc _)).mono ?_; rintro e w' ⟨rfl, hb1⟩
    go_wp2_with fail
    refine (l1Count_c _ _ _ t i _ ht (hu.below hb1.of_alloc)).mono ?_; rintro e w2 ⟨rfl, hb2⟩
    go_wp2_with fail
    go_ret2
    exact ⟨by rw [E.out]; rfl, hb1.of_alloc.step hb2⟩

theorem iCountOf_t {l h l' h' : Nat} {v u : Value} {ar t : List Int} {w : World} (ha : ar.length ≤ 1048576) (hv : SlI l h w v ar) (ht : t.length ≤ 1048576) (hu : SlI l' h' w u t) {i : Int} (_ : -9223372036854775808 ≤ i) (_ : i ≤ 9223372036854775807) :
    Calls Try.prog 32 #[.agg #[v], u, .int .i64 i] w (RetV w (.tuple #[.int .i64 (countAns ar t i), .bool (goodTerm ar t)])) := by
  have hu0 := hu
  obtain ⟨ad, cap, rfl, -, -, hr⟩ := hu
  cases hs : goodTerm ar t with
  | false =>
    have E := Lib.hid (count_no (n := i) hs)
    have HS := Lib.hid hs; clear hs hr
    go_enter Try.func32, Try.ntmps32
    go_wp2_with fail
    refine (iGoodTerm_v _ _ _ _ _ _ _ _ _ _ HS.out ha ht (hv.alloc _) (hu0.alloc _)).mono ?_; rintro e w' ⟨rfl, hb1⟩
    go_wp2_with fail
    go_ret2
    exact ⟨by rw [E.out]; rfl, hb1.of_alloc⟩
  | true =>
    have EE := Lib.hid (count_yes (n := i) hs)
    have HS := Lib.hid hs; clear hs
    go_enter Try.func32, Try.ntmps32
    go_wp2_with fail
    refine (iGoodTerm_v _ _ _ _ _ _ _ _ _ _ HS.out ha ht (hv.alloc _) (hu0.alloc _)).mono ?_; rintro e w1 ⟨rfl, hb1⟩
    go_wp2_with fail
    go_loop [8, 17] (fun m j => ∃ k : Nat, k ≤ t.length ∧ j = .int .i64 k ∧ m = .int .i64 (cntI (t.take k) i)) (fun _ j => t.length - (intOf j).toNat)
    case atStart => exact ⟨0, Nat.zero_le _, rfl, rfl⟩
    case round =>
      obtain ⟨k, hk, rfl, rfl⟩ := hrel
      have hle : cntI (t.take k) i ≤ k := by have := cntI_le (t.take k) i; simp at this; omega
      by_cases hlt : k < t.length
      · obtain ⟨b, off, rfl, -, hcell⟩ := rd hr hb1.of_alloc k hlt
        have E1 := Lib.hid (cntI_yes t i k hlt)
        have E2 := Lib.hid (cntI_no t i k hlt)
        clear hr
        generalize t.getD k 0 = x at *
        generalize cntI (t.take k) i = m at *
        by_cases hx : x = i
        · have E := Lib.hid (E1.out hx)
          have hx' : (x == i) = true := by simpa using hx
          clear hx E1 E2
          go_wp2_with fail
          go_round
          case rel => exact ⟨k+1, by omega, by go_num, by rw [E.out]; go_num⟩
          case measure => simp [intOf]; omega
        · have E := Lib.hid (E2.out hx)
          have hx' : (x == i) = false := by simpa using hx
          clear hx E1 E2
          go_wp2_with fail
          go_round
          case rel => exact ⟨k+1, by omega, by go_num, by rw [E.out]⟩
          case measure => simp [intOf]; omega
      · have E := Lib.hid (show t.take k = t from List.take_of_length_le (by omega))
        go_wp2_with fail
        go_ret2
        exact ⟨by rw [EE.out]; rw [E.out]; rfl, hb1.of_alloc⟩

/-! ### ShiftVars -/
def shiftOne (d x : Int) : Int := if x < 0 then x - d else x
def shifted (t : List Int) (d : Int) : List Int := t.map (shiftOne d)
def mapDone (f : Int → Int) (t : List Int) (k : Nat) : List Int := (t.take k).map f ++ t.drop k
theorem mapDone_zero (f : Int → Int) (t : List Int) : mapDone f t 0 = t := by simp [mapDone]
theorem mapDone_len (f : Int → Int) (t : List Int) (k : Nat) : (mapDone f t k).length = t.length := by simp [mapDone]; omega
theorem mapDone_get (f : Int → Int) (t : List Int) (k : Nat) (h : k < t.length) : (mapDone f t k).getD k 0 = t.getD k 0 := by
  unfold mapDone
  have hl : ((t.take k).map f).length = k := by simp; omega
  simp only [List.getD]
  rw [List.getElem?_append_right (by omega), hl, Nat.sub_self]
  simp
theorem mapDone_succ (f : Int → Int) (t : List Int) (k : Nat) (h : k < t.length) : (mapDone f t k).set k (f (t.getD k 0)) = mapDone f t (k+1) := by
  unfold mapDone
  have hl : ((t.take k).map f).length = k := by simp; omega
  rw [List.set_append_right _ _ (by omega), hl, Nat.sub_self, List.drop_eq_getElem_cons h, List.set_cons_zero, List.take_succ_eq_append_getElem h, List.map_append, List.append_assoc]
  simp [List.getD, h]
theorem mapDone_same (f : Int → Int) (t : List Int) (k : Nat) (h : k < t.length) (e : f (t.getD k 0) = t.getD k 0) : mapDone f t k = mapDone f t (k+1) := by
  have h1 : k < (mapDone f t k).length := by rw [mapDone_len]; exact h
  have h2 : t.getD k 0 = (mapDone f t k)[k] := by rw [← mapDone_get f t k h]; simp [List.getD, h1]
  rw [← mapDone_succ f t k h, e, h2, List.set_getElem_self]
theorem mapDone_all (f : Int → Int) (t : List Int) (k : Nat) (h : ¬ k < t.length) : mapDone f t k = t.map f := by
  unfold mapDone; rw [List.take_of_length_le (by omega), List.drop_eq_nil_of_le (by omega), List.append_nil]

/-- The cell, the mark and the next state at a place of a slice of the call's own. -/
theorem OwnI.at {lo hi : Nat} {w : World} {ad : Option Addr} {n c : Nat} {xs : List Int} (h : OwnI lo hi w (.slice ad n c) xs) (j : Nat) (hj : j < xs.length) :
    ∃ b off, ad = some ⟨b, off, none⟩ ∧ lo ≤ b ∧ b < hi ∧ w.cell? ⟨b, off + j, none⟩ = some (.int .i64 (xs.getD j 0)) ∧ w.frozen? ⟨b, off + j, none⟩ = false ∧
      ∀ x : Int, OwnI lo hi (w.setCell ⟨b, off + j, none⟩ (.int .i64 x)) (.slice (some ⟨b, off, none⟩) n c) (xs.set j x) := by
  have h0 := h
  obtain ⟨⟨ad', cap, e, hc, hm, hr⟩, hf⟩ := h
  obtain ⟨b, off, rfl, a1, a2, a3⟩ := hr (by omega)
  simp only [Value.slice.injEq] at e
  obtain ⟨rfl, rfl, rfl⟩ := e
  exact ⟨b, off, rfl, a1, a2, a3 j hj, hf b off _ _ rfl (by omega) j, fun x => h0.stored j hj x⟩

def shiftOk (ar t : List Int) (d : Int) : Bool := goodTerm ar t && inB d 0 12 && okTerm ar (shifted t d)
def shiftAns (ar t : List Int) (d : Int) : List Int := if shiftOk ar t d then shifted t d else []
theorem shifted_len (t : List Int) (d : Int) : (shifted t d).length = t.length := by simp [shifted]
theorem shiftAns_len (ar t : List Int) (d : Int) : (shiftAns ar t d).length ≤ 1048576 := by
  unfold shiftAns
  split
  · rename_i h
    simp only [shiftOk, Bool.and_eq_true] at h
    have := ((okTerm_iff _ _).1 h.2).2.1
    omega
  · exact Nat.zero_le _
theorem shift_no {ar t : List Int} {d : Int} (h : shiftOk ar t d = false) : shiftAns ar t d = [] := by simp [shiftAns, h]
theorem shift_yes {ar t : List Int} {d : Int} (h : shiftOk ar t d = true) : shiftAns ar t d = shifted t d := by simp [shiftAns, h]
theorem good_low {ar t : List Int} (h : goodTerm ar t = true) : t.length ≤ 40 ∧ ∀ k, k < t.length → -12 ≤ t.getD k 0 := by
  obtain ⟨_, h2⟩ := goodTerm_iff.1 h
  refine ⟨((okTerm_iff _ _).1 h2).2.1, fun k hk => ?_⟩
  have := good_sym ar t h2 k hk
  simp [okSym, inB] at this
  simp only [List.getD]
  omega

end Go.Proofs.Ytajmjjandkdhiab
end
