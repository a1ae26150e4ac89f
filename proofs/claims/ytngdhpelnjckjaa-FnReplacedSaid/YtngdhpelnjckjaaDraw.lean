import Derived.Test.YtngdhpelnjckjaaBase
import Derived.IntWalk
import Derived.Test.YtngdhpelnjckjaaT1
namespace Go.Proofs.Ytngdhpelnjckjaa
open Go.RowKit

/-- A slice of bytes that lies in blocks below hi. -/
def SlB (hi : Nat) (w : World) (v : Value) (n : Nat) : Prop :=
  ∃ ad cap, v = .slice ad n cap ∧ n ≤ cap ∧ (0 < n → ∃ b off, ad = some ⟨b, off, none⟩ ∧ b < hi ∧ ∀ j, j < n → ∃ x : Nat, x < 256 ∧ w.cell? ⟨b, off + j, none⟩ = some (.int .u8 x))

/-- The cursor of the draws at block b: n bytes, of which k have been read. -/
def Cur (b n k : Nat) (w : World) : Prop :=
  ∃ code seed, b < w.heap.size ∧ SlB b w code n ∧ w.cell? ⟨b, 0, none⟩ = some code ∧ w.cell? ⟨b, 1, none⟩ = some (.int .i64 (k : Nat)) ∧ w.cell? ⟨b, 2, none⟩ = some (.int .u64 seed) ∧
    (∀ j, w.frozen? ⟨b, j, none⟩ = false)

/-- A number below m; the cursor has gone on by d at most; nothing else has turned. -/
def RetD (b n k d m : Nat) (w : World) (e : Ending) (w' : World) : Prop :=
  ∃ x k' : Nat, e = .returned (.int .i64 x) ∧ x < m ∧ k ≤ k' ∧ k' ≤ k + d ∧ Cur b n k' w' ∧ Chg b (b+1) w w'

theorem SlB.chg {hi n lo' hi' : Nat} {w w' : World} {v : Value} (h : SlB hi w v n) (k : Chg lo' hi' w w') (hd : hi ≤ lo') : SlB hi w' v n := by
  obtain ⟨ad, cap, rfl, hc, hr⟩ := h
  refine ⟨ad, cap, rfl, hc, fun hp => ?_⟩
  obtain ⟨b, off, e, hb, hx⟩ := hr hp
  refine ⟨b, off, e, hb, fun j hj => ?_⟩
  obtain ⟨x, h1, h2⟩ := hx j hj
  exact ⟨x, h1, k.cell (World.block_lt_of_cell? w ⟨b, off + j, none⟩ h2) (.inl (by omega)) h2⟩
theorem Cur.step {b n k j : Nat} {w w' : World} {s : Int} (hc : Cur b n k w) (hg : Chg b (b+1) w w') (h0 : w'.cell? ⟨b, 0, none⟩ = w.cell? ⟨b, 0, none⟩) (h1 : w'.cell? ⟨b, 1, none⟩ = some (.int .i64 j)) (h2 : w'.cell? ⟨b, 2, none⟩ = some (.int .u64 s))
    (hf : ∀ j, w'.frozen? ⟨b, j, none⟩ = w.frozen? ⟨b, j, none⟩) : Cur b n j w' := by
  obtain ⟨code, seed, hbs, hr, c0, c1, c2, cf⟩ := hc
  exact ⟨code, s, Nat.lt_of_lt_of_le hbs hg.size, hr.chg hg (Nat.le_refl _), h0.trans c0, h1, h2, fun j => (hf j).trans (cf j)⟩
theorem Cur.two {b n k : Nat} {w : World} {z s : Int} (hc : Cur b n k w) (hz : z = ((k + 1 : Nat) : Int)) (p q : Nat) :
    Cur b n (k+1) ((((w.drewN p).setCell ⟨b, 1, none⟩ (.int .i64 z)).setCell ⟨b, 2, none⟩ (.int .u64 s)).drewN q) ∧
      Chg b (b+1) w ((((w.drewN p).setCell ⟨b, 1, none⟩ (.int .i64 z)).setCell ⟨b, 2, none⟩ (.int .u64 s)).drewN q) := by
  subst hz
  have hg : Chg b (b+1) w ((((w.drewN p).setCell ⟨b, 1, none⟩ (.int .i64 ((k + 1 : Nat) : Int))).setCell ⟨b, 2, none⟩ (.int .u64 s)).drewN q) :=
    ((Chg.of_bel ((Bel.rfl' w).drewN p)).trans ((Chg.set (lo := b) (hi := b+1) (p := ⟨b, 1, none⟩) _ (Nat.le_refl _) (Nat.lt_succ_self _) _).trans (Chg.set (lo := b) (hi := b+1) (p := ⟨b, 2, none⟩) _ (Nat.le_refl _) (Nat.lt_succ_self _) _))).trans (Chg.of_bel ((Bel.rfl' _).drewN q))
  refine ⟨?_, hg⟩
  have hc0 := hc
  obtain ⟨code, seed, hbs, hr, c0, c1, c2, cf⟩ := hc
  have d1 : (w.drewN p).cell? ⟨b, 1, none⟩ = some (.int .i64 k) := c1
  have d2 : (w.drewN p).cell? ⟨b, 2, none⟩ = some (.int .u64 seed) := c2
  have n12 : (⟨b, 1, none⟩ : Addr) ≠ ⟨b, 2, none⟩ := by intro h; simp at h
  have n21 : (⟨b, 2, none⟩ : Addr) ≠ ⟨b, 1, none⟩ := by intro h; simp at h
  have n10 : (⟨b, 1, none⟩ : Addr) ≠ ⟨b, 0, none⟩ := by intro h; simp at h
  have n20 : (⟨b, 2, none⟩ : Addr) ≠ ⟨b, 0, none⟩ := by intro h; simp at h
  have e2 : ((w.drewN p).setCell ⟨b, 1, none⟩ (.int .i64 ((k + 1 : Nat) : Int))).cell? ⟨b, 2, none⟩ = some (.int .u64 seed) := by rw [World.cell?_setCell_other (h := n12)]; exact d2
  refine hc0.step hg ?_ ?_ ?_ ?_ (s := s)
  · show (((w.drewN p).setCell ⟨b, 1, none⟩ _).setCell ⟨b, 2, none⟩ _).cell? ⟨b, 0, none⟩ = _
    rw [World.cell?_setCell_other (h := n20), World.cell?_setCell_other (h := n10)]; rfl
  · show (((w.drewN p).setCell ⟨b, 1, none⟩ _).setCell ⟨b, 2, none⟩ _).cell? ⟨b, 1, none⟩ = _
    rw [World.cell?_setCell_other (h := n21), World.cell?_setCell_same (h := d1)]
  · show (((w.drewN p).setCell ⟨b, 1, none⟩ _).setCell ⟨b, 2, none⟩ _).cell? ⟨b, 2, none⟩ = _
    rw [World.cell?_setCell_same (h := e2)]
  · intro j
    show (((w.drewN p).setCell ⟨b, 1, none⟩ _).setCell ⟨b, 2, none⟩ _).frozen? ⟨b, j, none⟩ = _
    rw [World.frozen?_setCell, World.frozen?_setCell]; rfl

theorem mask255 (s : Int) : ∃ m : Nat, wrap64 (bits BinOp.and IntKind.u64 (IntKind.u64.wrap s / 1099511627776) 255) = m ∧ m < 256 := by
  have h0 : 0 ≤ IntKind.u64.wrap s ∧ IntKind.u64.wrap s ≤ 18446744073709551615 := by
    rw [IntKind.wrap_u64]; omega
  generalize IntKind.u64.wrap s = a at h0
  have h := bits_and_u64_nat (a / 1099511627776).toNat 255 (by omega) (by omega)
  rw [Int.toNat_of_nonneg (by omega)] at h
  have hl : (a / 1099511627776).toNat &&& 255 < 256 := Nat.lt_succ_of_le Nat.and_le_right
  refine ⟨(a / 1099511627776).toNat &&& 255, ?_, hl⟩
  have h3 : bits BinOp.and IntKind.u64 (a / 1099511627776) 255 = (((a / 1099511627776).toNat &&& 255 : Nat) : Int) := h
  rw [h3]
  exact IntWalk.wrap64_in (((a / 1099511627776).toNat &&& 255 : Nat) : Int) (by omega)

set_option maxRecDepth 100000 in
set_option maxHeartbeats 300000 in
theorem next_c (b n k : Nat) (w : World) (hn : n ≤ 1099511627776) (hk : k ≤ 1099511627776) (hc : Cur b n k w) :
    Calls Try.prog 135 #[.pointer (some ⟨b, 0, none⟩)] w (RetD b n k 1 256 w) := by
  have hcc := Lib.hid hc
  obtain ⟨code, seed, hbs, ⟨ad, cap, rfl, hcap, hr⟩, h0, h1, h2, hf⟩ := hc
  have hf1 := hf 1
  have hf2 := hf 2
  go_enter Try.func135, Try.ntmps135
  by_cases hlt : k < n
  · obtain ⟨bb, off, rfl, hbb, hcell⟩ := hr (by omega)
    obtain ⟨x, hx, hcx⟩ := hcell k hlt
    have hw1 := IntWalk.i64_in ((k : Int) + 1) (by omega)
    have hd : decide ((k : Int) < n) = true := by simp; omega
    go_wp2_with fail
    go_quiet (fail)
    go_wp2_with fail
    go_quiet (fail)
    have hd2 : decide ((k : Int) + 1 ≤ n) = true := by simp; omega
    go_wp2_with fail
    go_quiet (fail)
    go_wp2_with fail
    go_ret
    exact ⟨x, k+1, rfl, hx, by omega, by omega, (hcc.out.two (by omega) _ _).1, (hcc.out.two (by omega) _ _).2⟩
  · have hw1 := IntWalk.i64_in ((k : Int) + 1) (by omega)
    have hd : decide ((k : Int) < n) = false := by simp; omega
    go_wp2_with fail
    go_quiet (fail)
    have hd2 : decide ((k : Int) + 1 ≤ n) = false := by simp; omega
    go_wp2_with fail
    go_quiet (fail)
    go_wp2_with fail
    go_ret
    obtain ⟨m, em, hm⟩ := mask255 (IntKind.u64.wrap (IntKind.u64.wrap (seed * 6364136223846793005)) + 1442695040888963407)
    refine ⟨m, k+1, by rw [← em]; rfl, hm, by omega, by omega, (hcc.out.two (by omega) _ _).1, (hcc.out.two (by omega) _ _).2⟩

set_option maxRecDepth 100000 in
set_option maxHeartbeats 300000 in
theorem pick_c (b n k : Nat) (z : Int) (m : Nat) (w : World) (hz : z = m) (hn : n ≤ 1099511627776) (hk : k ≤ 1099511627775) (hm : m ≤ 1099511627776) (hc : Cur b n k w) :
    Calls Try.prog 102 #[.pointer (some ⟨b, 0, none⟩), .int .i64 z] w (RetD b n k 2 (m + (1 - m)) w) := by
  subst hz
  go_enter Try.func102, Try.ntmps102
  by_cases h1 : m ≤ 1
  · have hd : decide ((m : Int) ≤ 1) = true := by simp; omega
    go_wp2_with fail
    go_ret
    exact ⟨0, k, rfl, by omega, by omega, by omega, hc, Chg.refl _ _ _⟩
  · have hd : decide ((m : Int) ≤ 1) = false := by simp; omega
    by_cases h2 : m ≤ 200
    · have hd2 : decide ((200 : Int) < m) = false := by simp; omega
      go_wp2_with (go_at_call 135; refine (next_c b n k w hn (by omega) hc).mono ?_; rintro e w1 ⟨x, k1, rfl, hx, hk1, hk2, hc1, hg1⟩)
      go_ret
      have hlt : x % m < m := Nat.mod_lt _ (by omega)
      exact ⟨x % m, k1, rfl, by omega, by omega, by omega, hc1, hg1⟩
    · have hd2 : decide ((200 : Int) < m) = true := by simp; omega
      go_wp2_with (first | (go_at_call 135; refine (next_c b n k w hn (by omega) hc).mono ?_; rintro e w1 ⟨x, k1, rfl, hx, hk1, hk2, hc1, hg1⟩) | (go_at_call 135; refine (next_c b n k1 w1 hn (by omega) hc1).mono ?_; rintro e w2 ⟨y, k2, rfl, hy, hk3, hk4, hc2, hg2⟩))
      go_ret
      have hlt : (x * 256 + y) % m < m := Nat.mod_lt _ (by omega)
      exact ⟨(x * 256 + y) % m, k2, rfl, by omega, by omega, by omega, hc2, hg1.trans hg2⟩

set_option maxRecDepth 100000 in
set_option maxHeartbeats 300000 in
theorem place_c (b n k : Nat) (v : Value) (m : Nat) (ad : Option Addr) (cap : Nat) (w : World) (hv : v = .slice ad m cap) (hn : n ≤ 1099511627776) (hk : k ≤ 1099511627773) (hm : m ≤ 1048576) (hc : Cur b n k w) :
    Calls Try.prog 87 #[.pointer (some ⟨b, 0, none⟩), v] w (fun e w' => ∃ (z : Int) (k' : Nat), e = .returned (.int .i64 z) ∧ -1 ≤ z ∧ z ≤ m ∧ k ≤ k' ∧ k' ≤ k + 4 ∧ Cur b n k' w' ∧ Chg b (b+1) w w') := by
  subst hv
  have hw1 := IntWalk.i64_in ((m : Int) + 1) (by omega)
  go_enter Try.func87, Try.ntmps87
  go_wp2_with (first | (go_at_call 102; refine (pick_c b n k _ (m + 1) w (by omega) hn (by omega) (by omega) hc).mono ?_; rintro e w1 ⟨x, k1, rfl, hx, hk1, hk2, hc1, hg1⟩) | (go_at_call 102; refine (pick_c b n k1 _ 20 w1 rfl hn (by omega) (by omega) hc1).mono ?_; rintro e w2 ⟨y, k2, rfl, hy, hk3, hk4, hc2, hg2⟩))
  go_ret
  exact ⟨(x : Int) - y / 19, k2, rfl, by omega, by omega, by omega, by omega, hc2, hg1.trans hg2⟩

/-- Yes or no. -/
def RetQ (b n k d : Nat) (w : World) (e : Ending) (w' : World) : Prop :=
  ∃ (q : Bool) (k' : Nat), e = .returned (.bool q) ∧ k ≤ k' ∧ k' ≤ k + d ∧ Cur b n k' w' ∧ Chg b (b+1) w w'
set_option maxRecDepth 100000 in
set_option maxHeartbeats 300000 in
theorem one_c (b n k : Nat) (z : Int) (m : Nat) (w : World) (hz : z = m) (hn : n ≤ 1099511627776) (hk : k ≤ 1099511627775) (hm : m ≤ 1099511627776) (hc : Cur b n k w) :
    Calls Try.prog 111 #[.pointer (some ⟨b, 0, none⟩), .int .i64 z] w (RetQ b n k 2 w) := by
  go_enter Try.func111, Try.ntmps111
  have H := Lib.hid (pick_c b n k z m w hz hn hk hm hc)
  clear hz hn hk hm hc
  go_wp2_with (go_at_call 102; refine H.out.mono ?_; clear H; rintro e w1 ⟨x, k1, rfl, hx, hs⟩; clear hx; have HS := Lib.hid hs; clear hs)
  go_ret
  obtain ⟨hk1, hk2, hc1, hg1⟩ := HS.out
  exact ⟨_, k1, rfl, hk1, hk2, hc1, hg1⟩

/-- A signature of the draws. -/
def drawn (ar : List Int) : Prop := ar = [0,0,0,1,1,2] ∨ ar = [0,1,2,3,0] ∨ ar = [] ∨ ar = [1,0]
def RetG (b n k d : Nat) (w : World) (e : Ending) (w' : World) : Prop :=
  ∃ (v : Value) (ar : List Int) (k' : Nat), e = .returned (.agg #[v]) ∧ drawn ar ∧ SlI w.heap.size w'.heap.size w' v ar ∧ k ≤ k' ∧ k' ≤ k + d ∧ Cur b n k' w' ∧ Chg b (b+1) w w'
theorem Cur.below {b n k : Nat} {w w' : World} (hc : Cur b n k w) (hb : Bel w w') : Cur b n k w' := by
  obtain ⟨code, seed, hbs, hr, c0, c1, c2, cf⟩ := hc
  exact ⟨code, seed, Nat.lt_of_lt_of_le hbs hb.size, hr.chg (Chg.of_bel (lo := b) (hi := b) hb) (Nat.le_refl _), hb.at hbs c0, hb.at hbs c1, hb.at hbs c2,
    fun j => (World.frozen?_of_block (w := w) (a := ⟨b, j, none⟩) (hb.block b hbs)).trans (cf j)⟩
theorem Cur.lt {b n k : Nat} {w : World} (hc : Cur b n k w) : b < w.heap.size := by obtain ⟨_, _, h, _⟩ := hc; exact h
theorem three {b : Nat} {w w1 : World} {ca cb cc : Array Value} {ta tb tc : TypeId} (hbl : b < w.heap.size) (hg : Chg b (b+1) (((w.alloc (.cells ca ta)).alloc (.cells cb tb)).alloc (.cells cc tc)) w1) :
    (∀ j v, ca[j]? = some v → w1.cell? ⟨w.heap.size, j, none⟩ = some v) ∧ (∀ j v, cb[j]? = some v → w1.cell? ⟨w.heap.size + 1, j, none⟩ = some v) ∧ (∀ j v, cc[j]? = some v → w1.cell? ⟨w.heap.size + 1 + 1, j, none⟩ = some v) := by
  have e1 : (w.alloc (.cells ca ta)).heap.size = w.heap.size + 1 := by simp
  have e2 : ((w.alloc (.cells ca ta)).alloc (.cells cb tb)).heap.size = w.heap.size + 1 + 1 := by simp
  refine ⟨fun j v h => hg.cell (by simp; omega) (by omega) (boxc (Bel.alloc2 (w.alloc (.cells ca ta)) _ _) j v h), fun j v h => ?_, fun j v h => ?_⟩
  · rw [← e1]
    exact hg.cell (by simp) (by simp; omega) (boxc (Bel.alloc0 _ _) j v h)
  · rw [← e2]
    exact hg.cell (by simp) (by simp; omega) (boxc (Bel.rfl' _) j v h)
end Go.Proofs.Ytngdhpelnjckjaa
