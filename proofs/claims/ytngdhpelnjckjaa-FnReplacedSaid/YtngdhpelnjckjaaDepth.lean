/- DepthOf: both functions. -/
import Derived.Test.YtngdhpelnjckjaaArgs
namespace Go.Proofs.Ytngdhpelnjckjaa
open Go.RowKit

/-- The greatest of some numbers, from m on. -/
def maxL (m : Nat) : List Nat → Nat
  | [] => m
  | x :: l => maxL (max m x) l
theorem maxL_snoc (m : Nat) (l : List Nat) (x : Nat) : maxL m (l ++ [x]) = max (maxL m l) x := by
  induction l generalizing m with
  | nil => rfl
  | cons y l ih => exact ih _
theorem maxL_le (m n : Nat) (l : List Nat) (hm : m ≤ n) (h : ∀ x ∈ l, x ≤ n) : maxL m l ≤ n := by
  induction l generalizing m with
  | nil => exact hm
  | cons y l ih => exact ih _ (by have := h y (by simp); omega) (fun x hx => h x (by simp [hx]))

def depthF (ar t : List Int) : Nat → Nat → Nat
  | 0, _ => 0
  | f + 1, i => 1 + maxL 0 ((argsOf ar t i).map (depthF ar t f))
/-- The depth of the subterm at i. -/
def depthAt (ar t : List Int) (i : Nat) : Nat := depthF ar t (t.length - i) i

theorem argsGo_bd (ar t : List Int) : ∀ (k p e : Nat), endGo ar (t.drop p) k p = some e → ∀ a ∈ argsGo ar t k p, p ≤ a ∧ a < e := by
  intro k
  induction k with
  | zero => intro p e _ a ha; simp [argsGo] at ha
  | succ k ih =>
    intro p e h a ha
    obtain ⟨q, hq, hr, hpq, hqe⟩ := ends_step ar t p k e h
    rw [argsGo_succ hq] at ha
    rcases List.mem_cons.1 ha with rfl | ha
    · omega
    · have := ih q e hr a ha; omega
theorem argsOf_bd (ar t : List Int) (h : okTerm ar t = true) (i : Nat) (hi : i < t.length) : ∀ a ∈ argsOf ar t i, i < a ∧ a < t.length := by
  obtain ⟨e, h1, h2⟩ := good_args ar t h i hi
  intro a ha
  have := argsGo_bd ar t _ _ _ h1 a ha
  omega
theorem depthF_fuel (ar t : List Int) (h : okTerm ar t = true) : ∀ (n i : Nat), i < t.length → t.length - i ≤ n → ∀ f, t.length - i ≤ f → depthF ar t f i = depthAt ar t i := by
  intro n
  induction n with
  | zero => intro i hi hn; omega
  | succ n ih =>
    intro i hi hn f hf
    obtain ⟨f, rfl⟩ : ∃ f', f = f' + 1 := ⟨f - 1, by omega⟩
    unfold depthAt
    obtain ⟨g, hg⟩ : ∃ g, t.length - i = g + 1 := ⟨t.length - i - 1, by omega⟩
    rw [hg, depthF, depthF]
    congr 2
    apply List.map_congr_left
    intro a ha
    have hb := argsOf_bd ar t h i hi a ha
    rw [ih a hb.2 (by omega) f (by omega), ih a hb.2 (by omega) g (by omega)]
theorem depthAt_eq (ar t : List Int) (h : okTerm ar t = true) (i : Nat) (hi : i < t.length) : depthAt ar t i = 1 + maxL 0 ((argsOf ar t i).map (depthAt ar t)) := by
  conv => lhs; unfold depthAt
  obtain ⟨g, hg⟩ : ∃ g, t.length - i = g + 1 := ⟨t.length - i - 1, by omega⟩
  rw [hg, depthF]
  congr 2
  apply List.map_congr_left
  intro a ha
  have hb := argsOf_bd ar t h i hi a ha
  exact depthF_fuel ar t h t.length a hb.2 (by omega) g (by omega)
theorem depthF_le (ar t : List Int) : ∀ f i, depthF ar t f i ≤ f := by
  intro f
  induction f with
  | zero => intro i; exact Nat.le_refl _
  | succ f ih =>
    intro i
    rw [depthF]
    have := maxL_le 0 f ((argsOf ar t i).map (depthF ar t f)) (Nat.zero_le _) (by intro x hx; simp at hx; obtain ⟨a, _, rfl⟩ := hx; exact ih a)
    omega
theorem depthAt_le (ar t : List Int) (i : Nat) : depthAt ar t i ≤ t.length := Nat.le_trans (depthF_le ar t _ i) (by omega)

theorem maxD_le (ar t : List Int) (l : List Nat) : maxL 0 (l.map (depthAt ar t)) ≤ t.length :=
  maxL_le 0 t.length _ (Nat.zero_le _) (by intro x hx; rw [List.mem_map] at hx; obtain ⟨a, _, rfl⟩ := hx; exact depthAt_le ar t a)
theorem l1Most_c (a b : Nat) (w : World) : Calls Try.prog 136 #[.int .i64 a, .int .i64 b] w (RetV w (.int .i64 ((max a b : Nat) : Int))) := by
  by_cases h : b < a
  · have E : Hid (max a b = a) := by show max a b = a; omega
    go_enter Try.func136, Try.ntmps136
    go_wp2_with fail
    go_ret
    exact ⟨by rw [E.out]; rfl, Bel.rfl' _⟩
  · have E : Hid (max a b = b) := by show max a b = b; omega
    go_enter Try.func136, Try.ntmps136
    go_wp2_with fail
    go_ret
    exact ⟨by rw [E.out]; rfl, Bel.rfl' _⟩

theorem natsI_get (l : List Nat) (k : Nat) (h : k < l.length) : (natsI l).getD k 0 = ((l.getD k 0 : Nat) : Int) := by simp [natsI, List.getD, h]
theorem maxL_step (d : Nat → Nat) (l : List Nat) (k : Nat) (h : k < l.length) : maxL 0 ((l.take (k+1)).map d) = max (maxL 0 ((l.take k).map d)) (d (l.getD k 0)) := by
  rw [List.take_succ_eq_append_getElem h, List.map_append]
  simp only [List.map_cons, List.map_nil]
  rw [maxL_snoc]
  simp [List.getD, h]

set_option maxRecDepth 100000 in
set_option maxHeartbeats 1000000 in
theorem l1Depth_c (l h l' h' : Nat) (v u : Value) (ar t : List Int) (hg : goodSign ar = true) (hok : okTerm ar t = true) :
    ∀ (n i : Nat) (w : World), t.length - i ≤ n → i < t.length → SlI l h w v ar → SlI l' h' w u t → Calls Try.prog 104 #[.agg #[v], u, .int .i64 i] w (RetV w (.int .i64 (depthAt ar t i))) := by
  intro n
  induction n with
  | zero => intro i w hn hi; omega
  | succ n ih =>
    intro i w hn hi hv hu
    have IH := Lib.hid ih; clear ih
    have E := Lib.hid (depthAt_eq ar t hok i hi)
    have HA := Lib.hid (argsOf_bd ar t hok i hi)
    have hal : (argsOf ar t i).length ≤ 3 := by rw [argsOf_len]; exact arOf_le ar hg _
    have htl := ((okTerm_iff ar t).1 hok).2.1
    go_enter Try.func104, Try.ntmps104
    go_wp2_with fail
    refine (l1Args_c _ _ _ _ _ _ ar t i _ hg hok hi (hv.alloc _) (hu.alloc _)).mono ?_; rintro e w1 ⟨ad, m, c, rfl, ho, hb⟩
    obtain ⟨ad', cap', e, -, -, hr⟩ := ho.1
    simp only [Value.slice.injEq] at e
    obtain ⟨rfl, rfl, rfl⟩ := e
    rw [natsI_len] at hr ⊢
    generalize argsOf ar t i = args at *
    go_wp2_with fail
    go_loopw [7, 15] (fun m j wr => ∃ k : Nat, k ≤ args.length ∧ j = .int .i64 k ∧ m = .int .i64 (maxL 0 ((args.take k).map (depthAt ar t))) ∧ Bel (w.alloc (.cells #[v] 26)) wr ∧ Bel w1 wr) (fun _ j _ => args.length - (intOf j).toNat)
    case atStart => exact ⟨0, Nat.zero_le _, rfl, rfl, hb, Bel.rfl' _⟩
    case round =>
      obtain ⟨k, hk, rfl, rfl, hbr, hbw⟩ := hrel
      have hbox := boxc hbr 0 _ rfl
      have hml := maxD_le ar t (args.take k)
      by_cases hlt : k < args.length
      · obtain ⟨b, off, e2, -, -, hc⟩ := hr (by omega)
        subst e2
        have hcell := (hbw.cell (p := ⟨b, off + k, none⟩) (World.block_lt_of_cell? w1 ⟨b, off + k, none⟩ (hc k hlt))).trans (hc k hlt)
        rw [natsI_get _ _ hlt] at hcell
        have hmem : args.getD k 0 ∈ args := by simp [List.getD, hlt]
        have hab := HA.out _ hmem
        have E2 := Lib.hid (maxL_step (depthAt ar t) args k hlt)
        clear hr hc hmem
        generalize args.getD k 0 = a at *
        generalize maxL 0 ((args.take k).map (depthAt ar t)) = mm at *
        go_wp2_with fail
        refine (IH.out a _ (by omega) hab.2 (hv.below hbr.of_alloc) (hu.below hbr.of_alloc)).mono ?_; rintro e w2 ⟨rfl, hb2⟩
        go_wp2_with fail
        refine (l1Most_c mm (depthAt ar t a) _).mono ?_; rintro e w3 ⟨rfl, hb3⟩
        go_wp2_with fail
        go_roundw
        case rel => exact ⟨k+1, by omega, by go_num, by rw [E2.out], (hbr.step hb2).step hb3, (hbw.step hb2).step hb3⟩
        case measure => simp [intOf]; omega
      · have E3 := E.out
        rw [← show args.take k = args from List.take_of_length_le (by omega)] at E3
        generalize maxL 0 ((args.take k).map (depthAt ar t)) = mm at *
        have E2 := Lib.hid E3; clear E3
        go_wp2_with fail
        go_ret
        exact ⟨by rw [E2.out]; simp [Int.add_comm], hbr.of_alloc⟩

def depthAns (ar t : List Int) : Int := if goodTerm ar t then depthAt ar t 0 else 0
theorem depth_no {ar t : List Int} (h : goodTerm ar t = false) : depthAns ar t = 0 := by simp [depthAns, h]
theorem depth_yes {ar t : List Int} (h : goodTerm ar t = true) : depthAns ar t = depthAt ar t 0 := by simp [depthAns, h]

theorem sDepthOf_t {l h l' h' : Nat} {v u : Value} {ar t : List Int} {w : World} (ha : ar.length ≤ 1048576) (hv : SlI l h w v ar) (ht : t.length ≤ 1048576) (hu : SlI l' h' w u t) :
    Calls Try.prog 36 #[.agg #[v], u] w (RetV w (.tuple #[.int .i64 (depthAns ar t), .bool (goodTerm ar t)])) := by
  cases hs : goodTerm ar t with
  | false =>
    have E := Lib.hid (depth_no hs)
    have HS := Lib.hid hs; clear hs
    go_enter Try.func36, Try.ntmps36
    go_wp2_with fail
    refine (sGoodTerm_v _ _ _ _ _ _ _ _ _ _ HS.out ha ht (hv.alloc _) (hu.alloc _)).mono ?_; rintro e w' ⟨rfl, hb1⟩
    go_wp2_with fail
    go_ret2
    exact ⟨by rw [E.out]; rfl, hb1.of_alloc⟩
  | true =>
    have E := Lib.hid (depth_yes hs)
    obtain ⟨hg, hok⟩ := goodTerm_iff.1 hs
    have h1 := ((okTerm_iff ar t).1 hok).1
    have HS := Lib.hid hs; clear hs
    go_enter Try.func36, Try.ntmps36
    go_wp2_with fail
    refine (sGoodTerm_v _ _ _ _ _ _ _ _ _ _ HS.out ha ht (hv.alloc _) (hu.alloc _)).mono ?_; rintro e w' ⟨rfl, hb1⟩
    have hx1 := boxc hb1 0 _ rfl
    go_wp2_with fail
    refine (l1Depth_c _ _ _ _ _ _ ar t hg hok t.length 0 _ (by omega) (by omega) (hv.below hb1.of_alloc) (hu.below hb1.of_alloc)).mono ?_; rintro e w2 ⟨rfl, hb2⟩
    go_wp2_with fail
    go_ret2
    exact ⟨by rw [E.out]; rfl, hb1.of_alloc.step hb2⟩
end Go.Proofs.Ytngdhpelnjckjaa
