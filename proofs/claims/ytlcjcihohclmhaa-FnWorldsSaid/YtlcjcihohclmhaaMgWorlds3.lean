/- Texts merged, part 3. -/
import Derived.IntWalk
import Derived.Test.YtlcjcihohclmhaaRows
import Derived.ProofKit
import Derived.OpenShut
import Derived.ShutString
import Derived.ChangeOld
import Derived.Lib.SmallJoins
import Derived.Maps.AppendAt
import Derived.Test.YtlcjcihohclmhaaProg
import Derived.Shelf.Sort.Plain
import Derived.KernelRfl
import Derived.Shelf.Slices.In.SortNone
import Derived.Sort.OwnSortedInts
import Derived.Maps.OwnSet
import Derived.Maps.RangeWalk
import Derived.Test.YtlcjcihohclmhaaMgWorlds2
section
/- The laws' helpers over slices of slices of ints, by contracts. -/
namespace Go.Proofs.Ytlcjcihohclmhaa
open Go.RowKit

theorem Try.info24 : (Try.prog.info? 24).map (fun i => (i.zero, i.size, i.bytes)) = some (some (.slice none 0 0), 1, 24) := by kernel_rfl

def szS (xss : List (List Int)) (left : Int) : Int := if left - (tot xss : Nat) < 0 then -1 else left - (tot xss : Nat)

def RetMS (lo hi : Nat) (w : World) (v : Value) (xss : List (List Int)) (k : Nat) (e : Ending) (w' : World) : Prop := e = .returned (.int .i64 ((k + sumL xss : Nat) : Int)) ∧ Chg lo hi w w' ∧ OwnS lo hi w' v (marksS k xss)

end Go.Proofs.Ytlcjcihohclmhaa
end
section
/- The laws' own comparisons. -/
namespace Go.Proofs.Ytlcjcihohclmhaa
open Go.RowKit

set_option maxRecDepth 100000 in
theorem big_no (n m c d : Nat) (a b : Option Addr) (w : World) (hn : n ≤ 1048576) (hm : n + m ≤ 1048576) :
    Calls Try.prog 4 #[.slice a n c, .slice b m d] w (RetV w (.bool false)) := by
  have h1 : decide ((1048576 : Int) < n) = false := by simp; omega
  have h2 : decide ((1048576 : Int) - n < m) = false := by simp; omega
  have hw := IntWalk.i64_in ((1048576 : Int) - n) (by omega)
  go_enter Try.func4, Try.ntmps4
  go_wp2_with fail
  go_ret
  exact ⟨rfl, Bel.rfl' _⟩
set_option maxRecDepth 100000 in
theorem big_yes (n m c d : Nat) (a b : Option Addr) (w : World) (hn : n ≤ 9223372036854775807) (h : ¬ (n ≤ 1048576 ∧ n + m ≤ 1048576)) :
    Calls Try.prog 4 #[.slice a n c, .slice b m d] w (RetV w (.bool true)) := by
  by_cases h0 : 1048576 < n
  · have h1 : decide ((1048576 : Int) < n) = true := by simp; omega
    go_enter Try.func4, Try.ntmps4
    go_wp2_with fail
    go_ret
    exact ⟨rfl, Bel.rfl' _⟩
  · have h1 : decide ((1048576 : Int) < n) = false := by simp; omega
    have h2 : decide ((1048576 : Int) - n < m) = true := by simp; omega
    have hw := IntWalk.i64_in ((1048576 : Int) - n) (by omega)
    go_enter Try.func4, Try.ntmps4
    go_wp2_with fail
    go_ret
    exact ⟨rfl, Bel.rfl' _⟩
end Go.Proofs.Ytlcjcihohclmhaa
end
section
namespace Go.Proofs.Ytlcjcihohclmhaa
open Go.RowKit

/-- A slice of bytes that lies in blocks below hi. -/
def SlB (hi : Nat) (w : World) (v : Value) (n : Nat) : Prop :=
  ∃ ad cap, v = .slice ad n cap ∧ n ≤ cap ∧ (0 < n → ∃ b off, ad = some ⟨b, off, none⟩ ∧ b < hi ∧ ∀ j, j < n → ∃ x : Nat, x < 256 ∧ w.cell? ⟨b, off + j, none⟩ = some (.int .u8 x))

/-- The cursor of the draws at block b: n bytes, of which k have been read. -/
def Cur (b n k : Nat) (w : World) : Prop :=
  ∃ code seed, b < w.heap.size ∧ SlB b w code n ∧ w.cell? ⟨b, 0, none⟩ = some code ∧ w.cell? ⟨b, 1, none⟩ = some (.int .i64 (k : Nat)) ∧ w.cell? ⟨b, 2, none⟩ = some (.int .u64 seed) ∧
    (∀ j, w.frozen? ⟨b, j, none⟩ = false)

/-- A number below m; the cursor has gone on by d at most; nothing else has turned. -/
def RetD (b n k d m : Nat) (w : World) (e : Ending) (w' : World) : Prop :=
  ∃ x k' : Nat, e = .returned (.int .i64 x) ∧ x < m ∧ k ≤ k' ∧ k' ≤ k + d ∧ Cur b n k' w' ∧ Chg b (b+1) w w'

theorem SlB.chg {hi n lo' hi' : Nat} {w w' : World} {v : Value} (h : SlB hi w v n) (k : Chg lo' hi' w w') (hd : hi ≤ lo') : SlB hi w' v n := by
  obtain ⟨ad, cap, rfl, hc, hr⟩ := h
  refine ⟨ad, cap, rfl, hc, fun hp => ?_⟩
  obtain ⟨b, off, e, hb, hx⟩ := hr hp
  refine ⟨b, off, e, hb, fun j hj => ?_⟩
  obtain ⟨x, h1, h2⟩ := hx j hj
  exact ⟨x, h1, k.cell (World.block_lt_of_cell? w ⟨b, off + j, none⟩ h2) (.inl (by omega)) h2⟩
theorem Cur.step {b n k j : Nat} {w w' : World} {s : Int} (hc : Cur b n k w) (hg : Chg b (b+1) w w') (h0 : w'.cell? ⟨b, 0, none⟩ = w.cell? ⟨b, 0, none⟩) (h1 : w'.cell? ⟨b, 1, none⟩ = some (.int .i64 j)) (h2 : w'.cell? ⟨b, 2, none⟩ = some (.int .u64 s))
    (hf : ∀ j, w'.frozen? ⟨b, j, none⟩ = w.frozen? ⟨b, j, none⟩) : Cur b n j w' := by
  obtain ⟨code, seed, hbs, hr, c0, c1, c2, cf⟩ := hc
  exact ⟨code, s, Nat.lt_of_lt_of_le hbs hg.size, hr.chg hg (Nat.le_refl _), h0.trans c0, h1, h2, fun j => (hf j).trans (cf j)⟩
theorem Cur.two {b n k : Nat} {w : World} {z s : Int} (hc : Cur b n k w) (hz : z = ((k + 1 : Nat) : Int)) (p q : Nat) :
    Cur b n (k+1) ((((w.drewN p).setCell ⟨b, 1, none⟩ (.int .i64 z)).setCell ⟨b, 2, none⟩ (.int .u64 s)).drewN q) ∧
      Chg b (b+1) w ((((w.drewN p).setCell ⟨b, 1, none⟩ (.int .i64 z)).setCell ⟨b, 2, none⟩ (.int .u64 s)).drewN q) := by
  subst hz
  have hg : Chg b (b+1) w ((((w.drewN p).setCell ⟨b, 1, none⟩ (.int .i64 ((k + 1 : Nat) : Int))).setCell ⟨b, 2, none⟩ (.int .u64 s)).drewN q) :=
    ((Chg.of_bel ((Bel.rfl' w).drewN p)).trans ((Chg.set (lo := b) (hi := b+1) (p := ⟨b, 1, none⟩) _ (Nat.le_refl _) (Nat.lt_succ_self _) _).trans (Chg.set (lo := b) (hi := b+1) (p := ⟨b, 2, none⟩) _ (Nat.le_refl _) (Nat.lt_succ_self _) _))).trans (Chg.of_bel ((Bel.rfl' _).drewN q))
  refine ⟨?_, hg⟩
  have hc0 := hc
  obtain ⟨code, seed, hbs, hr, c0, c1, c2, cf⟩ := hc
  have d1 : (w.drewN p).cell? ⟨b, 1, none⟩ = some (.int .i64 k) := c1
  have d2 : (w.drewN p).cell? ⟨b, 2, none⟩ = some (.int .u64 seed) := c2
  have n12 : (⟨b, 1, none⟩ : Addr) ≠ ⟨b, 2, none⟩ := by intro h; simp at h
  have n21 : (⟨b, 2, none⟩ : Addr) ≠ ⟨b, 1, none⟩ := by intro h; simp at h
  have n10 : (⟨b, 1, none⟩ : Addr) ≠ ⟨b, 0, none⟩ := by intro h; simp at h
  have n20 : (⟨b, 2, none⟩ : Addr) ≠ ⟨b, 0, none⟩ := by intro h; simp at h
  have e2 : ((w.drewN p).setCell ⟨b, 1, none⟩ (.int .i64 ((k + 1 : Nat) : Int))).cell? ⟨b, 2, none⟩ = some (.int .u64 seed) := by rw [World.cell?_setCell_other (h := n12)]; exact d2
  refine hc0.step hg ?_ ?_ ?_ ?_ (s := s)
  · show (((w.drewN p).setCell ⟨b, 1, none⟩ _).setCell ⟨b, 2, none⟩ _).cell? ⟨b, 0, none⟩ = _
    rw [World.cell?_setCell_other (h := n20), World.cell?_setCell_other (h := n10)]; rfl
  · show (((w.drewN p).setCell ⟨b, 1, none⟩ _).setCell ⟨b, 2, none⟩ _).cell? ⟨b, 1, none⟩ = _
    rw [World.cell?_setCell_other (h := n21), World.cell?_setCell_same (h := d1)]
  · show (((w.drewN p).setCell ⟨b, 1, none⟩ _).setCell ⟨b, 2, none⟩ _).cell? ⟨b, 2, none⟩ = _
    rw [World.cell?_setCell_same (h := e2)]
  · intro j
    show (((w.drewN p).setCell ⟨b, 1, none⟩ _).setCell ⟨b, 2, none⟩ _).frozen? ⟨b, j, none⟩ = _
    rw [World.frozen?_setCell, World.frozen?_setCell]; rfl

theorem mask255 (s : Int) : ∃ m : Nat, wrap64 (bits BinOp.and IntKind.u64 (IntKind.u64.wrap s / 1099511627776) 255) = m ∧ m < 256 := by
  have h0 : 0 ≤ IntKind.u64.wrap s ∧ IntKind.u64.wrap s ≤ 18446744073709551615 := by
    rw [IntKind.wrap_u64]; omega
  generalize IntKind.u64.wrap s = a at h0
  have h := bits_and_u64_nat (a / 1099511627776).toNat 255 (by omega) (by omega)
  rw [Int.toNat_of_nonneg (by omega)] at h
  have hl : (a / 1099511627776).toNat &&& 255 < 256 := Nat.lt_succ_of_le Nat.and_le_right
  refine ⟨(a / 1099511627776).toNat &&& 255, ?_, hl⟩
  have h3 : bits BinOp.and IntKind.u64 (a / 1099511627776) 255 = (((a / 1099511627776).toNat &&& 255 : Nat) : Int) := h
  rw [h3]
  exact IntWalk.wrap64_in (((a / 1099511627776).toNat &&& 255 : Nat) : Int) (by omega)

set_option maxRecDepth 100000 in
set_option maxHeartbeats 300000 in
theorem next_c (b n k : Nat) (w : World) (hn : n ≤ 1099511627776) (hk : k ≤ 1099511627776) (hc : Cur b n k w) :
    Calls Try.prog 71 #[.pointer (some ⟨b, 0, none⟩)] w (RetD b n k 1 256 w) := by
  have hcc := Lib.hid hc
  obtain ⟨code, seed, hbs, ⟨ad, cap, rfl, hcap, hr⟩, h0, h1, h2, hf⟩ := hc
  have hf1 := hf 1
  have hf2 := hf 2
  go_enter Try.func71, Try.ntmps71
  by_cases hlt : k < n
  · obtain ⟨bb, off, rfl, hbb, hcell⟩ := hr (by omega)
    obtain ⟨x, hx, hcx⟩ := hcell k hlt
    have hw1 := IntWalk.i64_in ((k : Int) + 1) (by omega)
    have hd : decide ((k : Int) < n) = true := by simp; omega
    go_wp2_with fail
    go_quiet (fail)
    go_wp2_with fail
    go_quiet (fail)
    have hd2 : decide ((k : Int) + 1 ≤ n) = true := by simp; omega
    go_wp2_with fail
    go_quiet (fail)
    go_wp2_with fail
    go_ret
    exact ⟨x, k+1, rfl, hx, by omega, by omega, (hcc.out.two (by omega) _ _).1, (hcc.out.two (by omega) _ _).2⟩
  · have hw1 := IntWalk.i64_in ((k : Int) + 1) (by omega)
    have hd : decide ((k : Int) < n) = false := by simp; omega
    go_wp2_with fail
    go_quiet (fail)
    have hd2 : decide ((k : Int) + 1 ≤ n) = false := by simp; omega
    go_wp2_with fail
    go_quiet (fail)
    go_wp2_with fail
    go_ret
    obtain ⟨m, em, hm⟩ := mask255 (IntKind.u64.wrap (IntKind.u64.wrap (seed * 6364136223846793005)) + 1442695040888963407)
    refine ⟨m, k+1, by rw [← em]; rfl, hm, by omega, by omega, (hcc.out.two (by omega) _ _).1, (hcc.out.two (by omega) _ _).2⟩

set_option maxRecDepth 100000 in
set_option maxHeartbeats 300000 in
theorem pick_c (b n k : Nat) (z : Int) (m : Nat) (w : World) (hz : z = m) (hn : n ≤ 1099511627776) (hk : k ≤ 1099511627775) (hm : m ≤ 1099511627776) (hc : Cur b n k w) :
    Calls Try.prog 48 #[.pointer (some ⟨b, 0, none⟩), .int .i64 z] w (RetD b n k 2 (m + (1 - m)) w) := by
  subst hz
  go_enter Try.func48, Try.ntmps48
  by_cases h1 : m ≤ 1
  · have hd : decide ((m : Int) ≤ 1) = true := by simp; omega
    go_wp2_with fail
    go_ret
    exact ⟨0, k, rfl, by omega, by omega, by omega, hc, Chg.refl _ _ _⟩
  · have hd : decide ((m : Int) ≤ 1) = false := by simp; omega
    by_cases h2 : m ≤ 200
    · have hd2 : decide ((200 : Int) < m) = false := by simp; omega
      go_wp2_with (go_at_call 71; refine (next_c b n k w hn (by omega) hc).mono ?_; rintro e w1 ⟨x, k1, rfl, hx, hk1, hk2, hc1, hg1⟩)
      go_ret
      have hlt : x % m < m := Nat.mod_lt _ (by omega)
      exact ⟨x % m, k1, rfl, by omega, by omega, by omega, hc1, hg1⟩
    · have hd2 : decide ((200 : Int) < m) = true := by simp; omega
      go_wp2_with (first | (go_at_call 71; refine (next_c b n k w hn (by omega) hc).mono ?_; rintro e w1 ⟨x, k1, rfl, hx, hk1, hk2, hc1, hg1⟩) | (go_at_call 71; refine (next_c b n k1 w1 hn (by omega) hc1).mono ?_; rintro e w2 ⟨y, k2, rfl, hy, hk3, hk4, hc2, hg2⟩))
      go_ret
      have hlt : (x * 256 + y) % m < m := Nat.mod_lt _ (by omega)
      exact ⟨(x * 256 + y) % m, k2, rfl, by omega, by omega, by omega, hc2, hg1.trans hg2⟩

/-- Yes or no. -/
def RetQ (b n k d : Nat) (w : World) (e : Ending) (w' : World) : Prop :=
  ∃ (q : Bool) (k' : Nat), e = .returned (.bool q) ∧ k ≤ k' ∧ k' ≤ k + d ∧ Cur b n k' w' ∧ Chg b (b+1) w w'
set_option maxRecDepth 100000 in
set_option maxHeartbeats 300000 in
theorem one_c (b n k : Nat) (z : Int) (m : Nat) (w : World) (hz : z = m) (hn : n ≤ 1099511627776) (hk : k ≤ 1099511627775) (hm : m ≤ 1099511627776) (hc : Cur b n k w) :
    Calls Try.prog 67 #[.pointer (some ⟨b, 0, none⟩), .int .i64 z] w (RetQ b n k 2 w) := by
  go_enter Try.func67, Try.ntmps67
  have H := Lib.hid (pick_c b n k z m w hz hn hk hm hc)
  clear hz hn hk hm hc
  go_wp2_with (go_at_call 48; refine H.out.mono ?_; clear H; rintro e w1 ⟨x, k1, rfl, hx, hs⟩; clear hx; have HS := Lib.hid hs; clear hs)
  go_ret
  obtain ⟨hk1, hk2, hc1, hg1⟩ := HS.out
  exact ⟨_, k1, rfl, hk1, hk2, hc1, hg1⟩

/-- A signature of the draws. -/
def drawn (ar : List Int) : Prop := ar = [0,0,0,1,1,2] ∨ ar = [0,1,2,3,0] ∨ ar = [] ∨ ar = [1,0] ∨ ar = [0,0,1,1]
def RetG (b n k d : Nat) (w : World) (e : Ending) (w' : World) : Prop :=
  ∃ (v : Value) (ar : List Int) (k' : Nat), e = .returned (.agg #[v]) ∧ drawn ar ∧ SlI w.heap.size w'.heap.size w' v ar ∧ k ≤ k' ∧ k' ≤ k + d ∧ Cur b n k' w' ∧ Chg b (b+1) w w'
theorem Cur.below {b n k : Nat} {w w' : World} (hc : Cur b n k w) (hb : Bel w w') : Cur b n k w' := by
  obtain ⟨code, seed, hbs, hr, c0, c1, c2, cf⟩ := hc
  exact ⟨code, seed, Nat.lt_of_lt_of_le hbs hb.size, hr.chg (Chg.of_bel (lo := b) (hi := b) hb) (Nat.le_refl _), hb.at hbs c0, hb.at hbs c1, hb.at hbs c2,
    fun j => (World.frozen?_of_block (w := w) (a := ⟨b, j, none⟩) (hb.block b hbs)).trans (cf j)⟩
theorem Cur.lt {b n k : Nat} {w : World} (hc : Cur b n k w) : b < w.heap.size := by obtain ⟨_, _, h, _⟩ := hc; exact h
theorem three {b : Nat} {w w1 : World} {ca cb cc : Array Value} {ta tb tc : TypeId} (hbl : b < w.heap.size) (hg : Chg b (b+1) (((w.alloc (.cells ca ta)).alloc (.cells cb tb)).alloc (.cells cc tc)) w1) :
    (∀ j v, ca[j]? = some v → w1.cell? ⟨w.heap.size, j, none⟩ = some v) ∧ (∀ j v, cb[j]? = some v → w1.cell? ⟨w.heap.size + 1, j, none⟩ = some v) ∧ (∀ j v, cc[j]? = some v → w1.cell? ⟨w.heap.size + 1 + 1, j, none⟩ = some v) := by
  have e1 : (w.alloc (.cells ca ta)).heap.size = w.heap.size + 1 := by simp
  have e2 : ((w.alloc (.cells ca ta)).alloc (.cells cb tb)).heap.size = w.heap.size + 1 + 1 := by simp
  refine ⟨fun j v h => hg.cell (by simp; omega) (by omega) (boxc (Bel.alloc2 (w.alloc (.cells ca ta)) _ _) j v h), fun j v h => ?_, fun j v h => ?_⟩
  · rw [← e1]
    exact hg.cell (by simp) (by simp; omega) (boxc (Bel.alloc0 _ _) j v h)
  · rw [← e2]
    exact hg.cell (by simp) (by simp; omega) (boxc (Bel.rfl' _) j v h)
end Go.Proofs.Ytlcjcihohclmhaa
end
section
/- The arguments of a law, opened: slices of ints, a struct of one, strings, ints. -/
namespace Go.Proofs.Ytlcjcihohclmhaa
open Go.ChangeShapes Go.WideShapes Go.ChangeAt Go.RowKit
open Go.ChangeMaps (open_string shut_string)
set_option linter.unusedVariables false
set_option maxRecDepth 100000

theorem Row.own : ownKnob Try.prog.godebug = none := by kernel_rfl
theorem Row.laidOut : laidOutB Try.prog = true := by kernel_rfl

/-- A slice of ints that came in. -/
theorem op_slI {H : Type} {enc : TypeId × Value → H} {W : World} {fuel : Nat} {v : Value} {x : DataW H × List MemPlace}
    (h : DataW.trod enc Try.prog W 0 (fun _ => true) true fuel 24 [v] = some x) :
    ∃ xs : List Int, xs.length ≤ 9223372036854775807 ∧ SlI 0 W.heap.size W v xs ∧ ∀ n ∈ xs, (Lit.int .i64 n).wf = true := by
  rcases open_ints Try.underlying24 Try.underlying3 (by kernel_rfl) h with ⟨hcs, _⟩ | ⟨a, l, c, zs, hcs, _, hl, hm, hz, _, hcell, hwz⟩
  · simp at hcs
    subst hcs
    exact ⟨[], by simp, SlI.nil _ _ _, by simp⟩
  · simp at hcs
    subst hcs
    have hz' : zs.length = c := by simpa using hz
    have hlen : (zs.take l).length = l := by simp; omega
    refine ⟨zs.take l, by rw [hlen]; have : maxLen = 9223372036854775807 := rfl; omega, ⟨some a, c, by rw [hlen], by rw [hlen]; exact hl, ⟨hm, fun h => by simp at h⟩, fun hp => ?_⟩, fun n hn => hwz n (List.mem_of_mem_take hn)⟩
    rw [hlen] at hp
    obtain ⟨b, off, spot⟩ := a
    have h0 := hcell 0 (by omega)
    have hspot : spot = none := by simpa [Addr.add] using World.cell?_spot h0
    subst hspot
    refine ⟨b, off, rfl, Nat.zero_le _, World.block_lt_of_cell? W ⟨b, off + 0, none⟩ h0, fun j hj => ?_⟩
    rw [hlen] at hj
    rw [← add_plain, hcell j (by omega)]
    simp [List.getD, hj]

theorem op_int {H : Type} {enc : TypeId × Value → H} {W : World} {v : Value} {d : DataW H} {p : List MemPlace} {base : Nat} (hv : Value.okWide Try.prog W .any base 3 v)
    (h : DataW.Trod enc Try.prog W 0 (fun _ => true) true 3 v d p) : ∃ n : Int, v = .int .i64 n ∧ -9223372036854775808 ≤ n ∧ n ≤ 9223372036854775807 := by
  obtain ⟨n, rfl, rfl, rfl, wf⟩ := open_int Try.underlying3 hv h
  have h1 : IntKind.i64.min = -9223372036854775808 := rfl
  have h2 : IntKind.i64.max = 9223372036854775807 := rfl
  simp only [Lit.wf, Bool.and_eq_true, decide_eq_true_eq] at wf
  exact ⟨n, rfl, by omega, by omega⟩

theorem op_ints {H : Type} {enc : TypeId × Value → H} {W : World} {v : Value} {d : DataW H} {p : List MemPlace} {base : Nat} (hv : Value.okWide Try.prog W .any base 24 v)
    (h : DataW.Trod enc Try.prog W 0 (fun _ => true) true 24 v d p) : ∃ xs : List Int, xs.length ≤ 9223372036854775807 ∧ SlI 0 W.heap.size W v xs ∧ ∀ n ∈ xs, (Lit.int .i64 n).wf = true := by
  obtain ⟨a, n, c, rfl⟩ := okWide_slice Try.underlying24 hv
  obtain ⟨fuel, hf⟩ := h
  exact op_slI (x := (d, p)) (by simpa [Value.cells] using hf)

theorem op_string {H : Type} {enc : TypeId × Value → H} {W : World} {v : Value} {d : DataW H} {p : List MemPlace} {base : Nat} (hv : Value.okWide Try.prog W .any base 9 v)
    (h : DataW.Trod enc Try.prog W 0 (fun _ => true) true 9 v d p) : ∃ s : ByteArray, v = .string s ∧ s.size ≤ 9223372036854775807 := by
  obtain ⟨s, rfl, rfl, rfl, hs⟩ := open_string Try.underlying9 hv h
  exact ⟨s, rfl, hs⟩

theorem op_lt {H : Type} {enc : TypeId × Value → H} {W : World} {t : TypeId} {v : Value} {d : DataW H} {p : List MemPlace}
    (h : DataW.Trod enc Try.prog W 0 (fun _ => true) true t v d p) : ∀ x ∈ p, x.block < W.heap.size := by
  obtain ⟨m, hm⟩ := h; exact DataW.trod_lt m _ _ _ hm

end Go.Proofs.Ytlcjcihohclmhaa
end
section
/- Slices of bytes that came in. -/
namespace Go.Proofs.Ytlcjcihohclmhaa
open Go.ChangeShapes Go.WideShapes Go.ChangeAt Go.RowKit

set_option maxRecDepth 100000 in
theorem op_bytes {H : Type} {enc : TypeId × Value → H} {W : World} {v : Value} {d : DataW H} {p : List MemPlace} {base : Nat} (hv : Value.okWide Try.prog W .any base 22 v)
    (h : DataW.Trod enc Try.prog W 0 (fun _ => true) true 22 v d p) : ∃ n : Nat, n ≤ 9223372036854775807 ∧ SlB W.heap.size W v n := by
  obtain ⟨a, n, c, rfl⟩ := okWide_slice Try.underlying22 hv
  obtain ⟨fuel, hf⟩ := h
  have hf2 : DataW.trod enc Try.prog W 0 (fun _ => true) true fuel 22 [.slice a n c] = some (d, p) := by simpa [Value.cells] using hf
  rcases open_ints Try.underlying22 Try.underlying5 (by kernel_rfl) hf2 with ⟨hcs, _⟩ | ⟨a', l, c', zs, hcs, _, hl, hm, hz, _, hcell, hwz⟩
  · simp at hcs
    obtain ⟨rfl, rfl, rfl⟩ := hcs
    exact ⟨0, by omega, none, 0, rfl, Nat.le_refl _, fun h => absurd h (by omega)⟩
  · simp at hcs
    obtain ⟨rfl, rfl, rfl⟩ := hcs
    have hz' : zs.length = c := by simpa using hz
    have hml : maxLen = 9223372036854775807 := rfl
    refine ⟨n, by omega, some a', c, rfl, hl, fun hp => ?_⟩
    obtain ⟨b, off, spot⟩ := a'
    have h0 := hcell 0 (by omega)
    have hspot : spot = none := by simpa [Addr.add] using World.cell?_spot h0
    subst hspot
    refine ⟨b, off, rfl, World.block_lt_of_cell? W ⟨b, off + 0, none⟩ h0, fun j hj => ?_⟩
    have hj2 : j < zs.length := by omega
    have hw := hwz (zs.getD j 0) (by rw [show zs.getD j 0 = zs[j] from by simp [List.getD, hj2]]; exact List.getElem_mem hj2)
    have h1 : IntKind.u8.min = 0 := rfl
    have h2 : IntKind.u8.max = 255 := rfl
    simp only [Lit.wf, Bool.and_eq_true, decide_eq_true_eq] at hw
    refine ⟨(zs.getD j 0).toNat, by omega, ?_⟩
    rw [← add_plain, hcell j (by omega)]
    congr 2
    omega
end Go.Proofs.Ytlcjcihohclmhaa
end
section
/- The draws: a signature. -/
namespace Go.Proofs.Ytlcjcihohclmhaa
open Go.RowKit

theorem three_free {b : Nat} {w w1 : World} {ca cb cc : Array Value} {ta tb tc : TypeId} (hbl : b < w.heap.size) (hg : Chg b (b+1) (((w.alloc (.cells ca ta)).alloc (.cells cb tb)).alloc (.cells cc tc)) w1) :
    w1.frozen? ⟨w.heap.size, 0, none⟩ = false ∧ w1.frozen? ⟨w.heap.size + 1 + 1, 0, none⟩ = false := by
  refine ⟨(World.frozen?_of_block (hg.block w.heap.size (by simp; omega) (by omega))).trans (by simp [go_sem]; try rfl), (World.frozen?_of_block (hg.block (w.heap.size + 1 + 1) (by simp) (by omega))).trans (by simp [go_sem]; try rfl)⟩

theorem Cur.chg {b n k lo hi : Nat} {w w' : World} (h : Cur b n k w) (c : Chg lo hi w w') (hd : b < lo) : Cur b n k w' := by
  obtain ⟨code, seed, hbs, hr, c0, c1, c2, cf⟩ := h
  exact ⟨code, seed, Nat.lt_of_lt_of_le hbs c.size, hr.chg c (Nat.le_of_lt hd), c.cell hbs (.inl hd) c0, c.cell hbs (.inl hd) c1, c.cell hbs (.inl hd) c2,
    fun j => (World.frozen?_of_block (w := w) (a := ⟨b, j, none⟩) (c.block b hbs (.inl hd))).trans (cf j)⟩
theorem Chg.news {l1 h1 lo hi : Nat} {w w1 w' : World} (h : Chg l1 h1 w w1) (c : Chg lo hi w1 w') (hd : w.heap.size ≤ lo) : Chg l1 h1 w w' :=
  ⟨c.os.trans h.os, c.tape.trans h.tape, c.output.trans h.output, Nat.le_trans h.size c.size, fun i hi' ho => (c.block i (Nat.lt_of_lt_of_le hi' h.size) (.inl (by omega))).trans (h.block i hi' ho)⟩
theorem SlI.arr {w : World} {xs : List Int} {arr : Array Value} {T : TypeId} {B lo hi : Nat} (h : arr.toList = xs.map (Value.int .i64)) (hB : B = w.heap.size) (hl : xs.length ≤ 100) (h1 : lo ≤ B) (h2 : B < hi) :
    SlI lo hi (w.alloc (.cells arr T)) (.slice (some ⟨B, 0, none⟩) xs.length xs.length) xs := by
  subst hB
  refine ⟨_, xs.length, rfl, Nat.le_refl _, ⟨by unfold maxLen; omega, fun h => by simp at h⟩, fun hp => ⟨w.heap.size, 0, rfl, h1, h2, fun j hj => ?_⟩⟩
  rw [World.cell?_alloc_new w, ← Array.getElem?_toList, h, Nat.zero_add]
  simp [hj]

set_option maxRecDepth 100000 in
set_option maxHeartbeats 400000 in
theorem sign_c (b n k : Nat) (w : World) (hn : n ≤ 1099511627776) (hk : k ≤ 1099511627775) (hc : Cur b n k w) :
    Calls Try.prog 52 #[.pointer (some ⟨b, 0, none⟩)] w (RetG b n k 2 w) := by
  have hbl := hc.lt
  have H := Lib.hid (fun w' (h : Bel w w') => pick_c b n k 40 40 w' rfl hn hk (by omega) (hc.below h))
  clear hn hk hc
  go_enter Try.func52, Try.ntmps52
  go_wp2_with fail
  go_at_call 48
  refine (H.out _ (Bel.alloc3 _ _ _ _)).mono ?_
  clear H
  rintro e w1 ⟨x, k1, rfl, hx, hs⟩
  clear hx
  generalize hzx : (x : Int) = z
  have hz0 : 0 ≤ z := by omega
  clear hzx
  have h3 := three hbl hs.2.2.2
  have hf3 := three_free hbl hs.2.2.2
  have hz : w.heap.size + 1 + 1 < w1.heap.size := by have := hs.2.2.2.size; simp at this; omega
  have HS := Lib.hid hs
  clear hs
  have hd1 := h3.1 0 _ rfl
  have hd2 := h3.2.2 0 _ rfl
  have hf1 := hf3.1
  have hf2 := hf3.2
  have H3 := Lib.hid h3
  clear h3 hf3
  generalize hg2 : w.heap.size + 1 + 1 = g2 at hd2 hf2 hz ⊢
  generalize hg1 : w.heap.size + 1 = g1 at hd2 ⊢
  generalize hg0 : w.heap.size = g0 at hd1 hf1 ⊢
  have hlt0 : g0 < w1.heap.size := by omega
  have hne : g0 ≠ g2 := by omega
  have hne2 : g2 ≠ g0 := by omega
  have HG := Lib.hid (And.intro hg0 (And.intro hg1 hg2))
  clear hg2 hg1 hg0
  have hcase : z = 0 ∨ z = 1 ∨ z = 2 ∨ 2 < z := by omega
  rcases hcase with rfl | rfl | rfl | hx
  · go_wp2_with fail
    obtain ⟨hg0, hg1, hg2⟩ := HG.out
    obtain ⟨hk1, hk2, hcur, hchg⟩ := HS.out
    have hset2 := fun u v => (Chg.set (lo := g0) (hi := g2+1) (p := ⟨g2, 0, none⟩) w1 (by simp; omega) (by simp) u).trans (Chg.set (lo := g0) (hi := g2+1) (p := ⟨g0, 0, none⟩) (w1.setCell ⟨g2, 0, none⟩ u) (by simp) (by simp; omega) v)
    have hset1 := fun v => Chg.set (lo := g0) (hi := g2+1) (p := ⟨g0, 0, none⟩) w1 (by simp) (by simp; omega) v
    have hch0 := (Chg.of_bel (lo := b) (hi := b+1) (Bel.alloc3 w _ _ _)).trans hchg
    have hd1b : (w1.setCell ⟨g2, 0, none⟩ (.slice (some ⟨w1.heap.size, 0, none⟩) 5 5)).cell? ⟨g0, 0, none⟩ = some _ := (World.cell?_setCell_other w1 ⟨g2, 0, none⟩ ⟨g0, 0, none⟩ _ (fun h => hne2 (congrArg Addr.block h))).trans hd1
    have hd1c : ((w1.setCell ⟨g2, 0, none⟩ (.slice (some ⟨w1.heap.size, 0, none⟩) 5 5)).setCell ⟨g0, 0, none⟩ (.slice (some ⟨w1.heap.size, 0, none⟩) 5 5)).cell? ⟨g0, 0, none⟩ = some (.slice (some ⟨w1.heap.size, 0, none⟩) 5 5) := World.cell?_setCell_same _ _ _ hd1b
    have hfin := fun o => (Bel.alloc0 ((w1.setCell ⟨g2, 0, none⟩ (.slice (some ⟨w1.heap.size, 0, none⟩) 5 5)).setCell ⟨g0, 0, none⟩ (.slice (some ⟨w1.heap.size, 0, none⟩) 5 5)) o).at (by simp; omega) hd1c
    refine bodyPost_ret (v := .agg #[.slice (some ⟨w1.heap.size, 0, none⟩) 5 5]) (by simp [results, Try.results52, go_sem, hfin]) rfl ⟨_, [0, 1, 2, 3, 0], k1, rfl, by simp [drawn], ?_, hk1, hk2, ?_, ?_⟩
    · exact SlI.arr (xs := [0, 1, 2, 3, 0]) rfl (by first | rfl | simp) (by first | decide | simp) (by first | omega | (simp; omega)) (by first | omega | simp | (simp; omega))
    · exact hcur.chg ((hset2 _ _).trans (Chg.of_bel (Bel.alloc0 _ _))) (by omega)
    · exact hch0.news ((hset2 _ _).trans (Chg.of_bel (Bel.alloc0 _ _))) (by omega)
  · go_wp2_with fail
    obtain ⟨hg0, hg1, hg2⟩ := HG.out
    obtain ⟨hk1, hk2, hcur, hchg⟩ := HS.out
    have hset2 := fun u v => (Chg.set (lo := g0) (hi := g2+1) (p := ⟨g2, 0, none⟩) w1 (by simp; omega) (by simp) u).trans (Chg.set (lo := g0) (hi := g2+1) (p := ⟨g0, 0, none⟩) (w1.setCell ⟨g2, 0, none⟩ u) (by simp) (by simp; omega) v)
    have hset1 := fun v => Chg.set (lo := g0) (hi := g2+1) (p := ⟨g0, 0, none⟩) w1 (by simp) (by simp; omega) v
    have hch0 := (Chg.of_bel (lo := b) (hi := b+1) (Bel.alloc3 w _ _ _)).trans hchg
    refine bodyPost_ret (v := .agg #[.slice none 0 0]) (by simp [results, Try.results52, go_sem, hd1]) rfl ⟨_, [], k1, rfl, by simp [drawn], ?_, hk1, hk2, ?_, ?_⟩
    · exact SlI.nil _ _ _
    · exact hcur.chg (hset2 _ _) (by omega)
    · exact hch0.news (hset2 _ _) (by omega)
  · go_wp2_with fail
    obtain ⟨hg0, hg1, hg2⟩ := HG.out
    obtain ⟨hk1, hk2, hcur, hchg⟩ := HS.out
    have hset2 := fun u v => (Chg.set (lo := g0) (hi := g2+1) (p := ⟨g2, 0, none⟩) w1 (by simp; omega) (by simp) u).trans (Chg.set (lo := g0) (hi := g2+1) (p := ⟨g0, 0, none⟩) (w1.setCell ⟨g2, 0, none⟩ u) (by simp) (by simp; omega) v)
    have hset1 := fun v => Chg.set (lo := g0) (hi := g2+1) (p := ⟨g0, 0, none⟩) w1 (by simp) (by simp; omega) v
    have hch0 := (Chg.of_bel (lo := b) (hi := b+1) (Bel.alloc3 w _ _ _)).trans hchg
    have hd1b : (w1.setCell ⟨g2, 0, none⟩ (.slice (some ⟨w1.heap.size, 0, none⟩) 2 2)).cell? ⟨g0, 0, none⟩ = some _ := (World.cell?_setCell_other w1 ⟨g2, 0, none⟩ ⟨g0, 0, none⟩ _ (fun h => hne2 (congrArg Addr.block h))).trans hd1
    have hd1c : ((w1.setCell ⟨g2, 0, none⟩ (.slice (some ⟨w1.heap.size, 0, none⟩) 2 2)).setCell ⟨g0, 0, none⟩ (.slice (some ⟨w1.heap.size, 0, none⟩) 2 2)).cell? ⟨g0, 0, none⟩ = some (.slice (some ⟨w1.heap.size, 0, none⟩) 2 2) := World.cell?_setCell_same _ _ _ hd1b
    have hfin := fun o => (Bel.alloc0 ((w1.setCell ⟨g2, 0, none⟩ (.slice (some ⟨w1.heap.size, 0, none⟩) 2 2)).setCell ⟨g0, 0, none⟩ (.slice (some ⟨w1.heap.size, 0, none⟩) 2 2)) o).at (by simp; omega) hd1c
    refine bodyPost_ret (v := .agg #[.slice (some ⟨w1.heap.size, 0, none⟩) 2 2]) (by simp [results, Try.results52, go_sem, hfin]) rfl ⟨_, [1, 0], k1, rfl, by simp [drawn], ?_, hk1, hk2, ?_, ?_⟩
    · exact SlI.arr (xs := [1, 0]) rfl (by first | rfl | simp) (by first | decide | simp) (by first | omega | (simp; omega)) (by first | omega | simp | (simp; omega))
    · exact hcur.chg ((hset2 _ _).trans (Chg.of_bel (Bel.alloc0 _ _))) (by omega)
    · exact hch0.news ((hset2 _ _).trans (Chg.of_bel (Bel.alloc0 _ _))) (by omega)
  · go_wp2_with fail
    obtain ⟨hg0, hg1, hg2⟩ := HG.out
    obtain ⟨hk1, hk2, hcur, hchg⟩ := HS.out
    have hset2 := fun u v => (Chg.set (lo := g0) (hi := g2+1) (p := ⟨g2, 0, none⟩) w1 (by simp; omega) (by simp) u).trans (Chg.set (lo := g0) (hi := g2+1) (p := ⟨g0, 0, none⟩) (w1.setCell ⟨g2, 0, none⟩ u) (by simp) (by simp; omega) v)
    have hset1 := fun v => Chg.set (lo := g0) (hi := g2+1) (p := ⟨g0, 0, none⟩) w1 (by simp) (by simp; omega) v
    have hch0 := (Chg.of_bel (lo := b) (hi := b+1) (Bel.alloc3 w _ _ _)).trans hchg
    refine bodyPost_ret (v := .agg #[.slice (some ⟨g1, 0, none⟩) 6 6]) (by simp [results, Try.results52, go_sem, hd1]) rfl ⟨_, [0, 0, 0, 1, 1, 2], k1, rfl, by simp [drawn], ?_, hk1, hk2, ?_, ?_⟩
    · refine ⟨_, 6, rfl, by simp, ⟨by unfold maxLen; omega, fun h => by simp at h⟩, fun _ => ⟨g1, 0, rfl, by omega, by simp; omega, fun j hj => ?_⟩⟩
      rw [World.cell?_setCell_other w1 ⟨g0, 0, none⟩ ⟨g1, 0 + j, none⟩ _ (fun h => (show g0 ≠ g1 by omega) (congrArg Addr.block h))]
      simp only [List.length_cons, List.length_nil] at hj
      have h6 := H3.out.2.1 j
      rw [hg1] at h6
      rw [Nat.zero_add]
      match j, hj with
      | 0, _ => exact h6 _ rfl
      | 1, _ => exact h6 _ rfl
      | 2, _ => exact h6 _ rfl
      | 3, _ => exact h6 _ rfl
      | 4, _ => exact h6 _ rfl
      | 5, _ => exact h6 _ rfl
    · exact hcur.chg (hset1 _) (by omega)
    · exact hch0.news (hset1 _) (by omega)
end Go.Proofs.Ytlcjcihohclmhaa
end
section
/- Several rows of the call's own, kept apart by a tag on each block. No program. -/
namespace Go.Proofs.Ytlcjcihohclmhaa
open Go.RowKit

/-- v owns the elements xs; its block, if it has one, bears the tag t. -/
def OwnT (base : Nat) (tag : Nat → Nat) (t : Nat) (e : TypeId) (w : World) (v : Value) (xs : List Value) : Prop :=
  w.ownsRow base e 1 v xs.length xs ∧ ∀ g, v.ownBlock = some g → tag g = t
/-- All rows of other tags than t are as they were. -/
def Tags (base : Nat) (tag : Nat → Nat) (w : World) (tag' : Nat → Nat) (w' : World) (t : Nat) : Prop :=
  ∀ t' e u zs, t' ≠ t → OwnT base tag t' e w u zs → OwnT base tag' t' e w' u zs

theorem OwnT.lt {base tag t e w v xs} (h : OwnT base tag t e w v xs) {g : Nat} (hg : v.ownBlock = some g) : g < w.heap.size := by
  rcases h.1.2 with ⟨rfl, _⟩ | ⟨g', cap, cur, rfl, _, hh, _⟩
  · simp [Value.ownBlock] at hg
  · simp [Value.ownBlock] at hg; subst hg; exact (Array.getElem?_eq_some_iff.1 hh).1
theorem OwnT.bel {base tag t e w w' v xs} (h : OwnT base tag t e w v xs) (hb : Bel w w') : OwnT base tag t e w' v xs := ⟨ownsRow_bel h.1 hb, h.2⟩
theorem OwnT.alloc {base tag t e w v xs} (h : OwnT base tag t e w v xs) (o : Obj) : OwnT base tag t e (w.alloc o) v xs := h.bel (Bel.alloc0 w o)
theorem OwnT.nil (base : Nat) (tag : Nat → Nat) (t : Nat) (e : TypeId) (w : World) : OwnT base tag t e w (.slice none 0 0) [] := ⟨World.ownsRow_nil _ _ _ _, fun g h => by simp [Value.ownBlock] at h⟩
theorem Tags.of_bel {base tag w w' t} (hb : Bel w w') : Tags base tag w tag w' t := fun _ _ _ _ _ h => h.bel hb
theorem Tags.trans {base tag w tag1 w1 tag2 w2 t} (h : Tags base tag w tag1 w1 t) (k : Tags base tag1 w1 tag2 w2 t) : Tags base tag w tag2 w2 t := fun t' e u zs hn ho => k t' e u zs hn (h t' e u zs hn ho)

theorem tag_append {base tag t e w w1 v v' xs ys} (h : OwnT base tag t e w v xs) (hown : w1.ownsRow base e 1 v' ys.length ys) (hg : w.grownBy w1 v.ownBlock) (hat : v'.ownBlock = v.ownBlock ∨ v'.ownBlock = some w.heap.size) :
    ∃ tag', OwnT base tag' t e w1 v' ys ∧ Tags base tag w tag' w1 t := by
  refine ⟨fun g => if g = w.heap.size then t else tag g, ⟨hown, fun g hgb => ?_⟩, fun t' e' u zs hn ho => ⟨?_, fun g hgb => ?_⟩⟩
  · show (if g = w.heap.size then t else tag g) = t
    rcases hat with h1 | h1
    · rw [h1] at hgb
      have := h.lt hgb
      rw [if_neg (by omega)]; exact h.2 g hgb
    · rw [h1] at hgb; simp at hgb; rw [if_pos hgb.symm]
  · refine ho.1.kept hg ?_
    cases hu : u.ownBlock with
    | none => exact .inl rfl
    | some g =>
      right
      intro e1
      exact hn ((ho.2 g hu).symm.trans (h.2 g e1.symm))
  · show (if g = w.heap.size then t else tag g) = t'
    have := ho.lt hgb
    rw [if_neg (by omega)]; exact ho.2 g hgb
theorem row_mono {w : World} {base base' e n : Nat} {v : Value} {xs : List Value} (h : w.ownsRow base e 1 v n xs) (hb : base' ≤ base) : w.ownsRow base' e 1 v n xs := by
  refine ⟨h.1, ?_⟩
  rcases h.2 with h0 | ⟨g, cap, cur, e1, e2, r⟩
  · exact .inl h0
  · exact .inr ⟨g, cap, cur, e1, by omega, r⟩
theorem row_len {w : World} {base e n m c : Nat} {ad : Option Addr} {xs : List Value} (h : w.ownsRow base e 1 (.slice ad n c) m xs) : n = m := by
  rcases h.2 with ⟨e1, h0⟩ | ⟨g, cap, cur, e1, _⟩
  · simp at e1; omega
  · simp at e1; exact e1.2.1
theorem tag_new {base tag e w w1 v xs} (t : Nat) (hown : w1.ownsRow w.heap.size e 1 v xs.length xs) (hb : Bel w w1) (hbase : base ≤ w.heap.size) :
    ∃ tag', OwnT base tag' t e w1 v xs ∧ ∀ t' e' u zs, OwnT base tag t' e' w u zs → OwnT base tag' t' e' w1 u zs := by
  refine ⟨fun g => if w.heap.size ≤ g then t else tag g, ⟨row_mono hown hbase, fun g hg => ?_⟩, fun t' e' u zs ho => ⟨ownsRow_bel ho.1 hb, fun g hg => ?_⟩⟩
  · have := own_base hown g hg
    simp [this]
  · have := ho.lt hg
    show (if w.heap.size ≤ g then t else tag g) = t'
    rw [if_neg (by omega)]; exact ho.2 g hg
theorem tag_re {base tag t e w v xs} (t2 : Nat) (h : OwnT base tag t e w v xs) : ∃ tag', OwnT base tag' t2 e w v xs ∧ ∀ t' e' u zs, t' ≠ t → OwnT base tag t' e' w u zs → OwnT base tag' t' e' w u zs := by
  refine ⟨fun g => if v.ownBlock = some g then t2 else tag g, ⟨h.1, fun g hg => by simp [hg]⟩, fun t' e' u zs hn ho => ⟨ho.1, fun g hg => ?_⟩⟩
  show (if v.ownBlock = some g then t2 else tag g) = t'
  rw [if_neg (fun e1 => hn ((ho.2 g hg).symm.trans (h.2 g e1)))]
  exact ho.2 g hg
theorem tag_store {base tag t e w g n cap xs} (h : OwnT base tag t e w (.slice (some ⟨g, 0, none⟩) n cap) xs) (j : Nat) (u : Value) :
    OwnT base tag t e (w.setCell ⟨g, j, none⟩ u) (.slice (some ⟨g, 0, none⟩) n cap) (xs.set j u) ∧ Tags base tag w tag (w.setCell ⟨g, j, none⟩ u) t := by
  have hl := row_len h.1
  subst hl
  have hst := h.1.stored j u
  refine ⟨⟨by rw [List.length_set]; exact hst.1, h.2⟩, fun t' e' u' zs hn ho => ⟨ho.1.kept hst.2 ?_, ho.2⟩⟩
  cases hu : u'.ownBlock with
  | none => exact .inl rfl
  | some g' =>
    right
    intro e1
    exact hn ((ho.2 g' hu).symm.trans (h.2 g' e1.symm))
/-- A store into a block of lower number: all rows stay. -/
theorem Tags.low {base tag w t} {p : Addr} (hp : p.block < base) (u : Value) : ∀ e v xs, OwnT base tag t e w v xs → OwnT base tag t e (w.setCell p u) v xs := by
  intro e v xs h
  refine ⟨⟨h.1.1, ?_⟩, h.2⟩
  rcases h.1.2 with h0 | ⟨g, cap, cur, e1, e2, hh, r⟩
  · exact .inl h0
  · exact .inr ⟨g, cap, cur, e1, e2, by rw [Below.heap_setCell w p u g (by omega)]; exact hh, r⟩

theorem row_oneCell {w : World} {base e : Nat} {v : Value} {xs : List Int} (h : w.ownsRow base e 1 v xs.length (xs.map (Value.int .i64))) {n c : Nat} {a : Addr} (hv : v = .slice (some a) n c) (hp : 0 < xs.length) : OwnI a.block (a.block + 1) w v xs := by
  have ho := OwnI.of_row h
  obtain ⟨⟨ad, cap, e1, hc, hm, hr⟩, hf⟩ := ho
  obtain ⟨b, off, e2, h1, h2, h3⟩ := hr hp
  have e3 : some a = some ⟨b, off, none⟩ := by rw [hv] at e1; simp only [Value.slice.injEq] at e1; rw [e1.1, e2]
  simp only [Option.some.injEq] at e3
  subst e3
  exact ⟨⟨ad, cap, e1, hc, hm, fun _ => ⟨b, off, e2, Nat.le_refl _, Nat.lt_succ_self _, h3⟩⟩, hf⟩
/-- The rows of the elements. -/
def InT (base : Nat) (tag : Nat → Nat) (ei : TypeId) (w : World) (us : List Value) (xss : List (List Int)) : Prop :=
  us.length = xss.length ∧ ∀ j u, us[j]? = some u → OwnT base tag (10 + j) ei w u ((xss.getD j []).map (Value.int .i64))
theorem InT.step {base tag ei w tag' w' us xss t} (h : InT base tag ei w us xss) (ht : t < 10) (k : Tags base tag w tag' w' t) : InT base tag' ei w' us xss := ⟨h.1, fun j u hj => k _ _ _ _ (by omega) (h.2 j u hj)⟩
theorem InT.all {base tag ei w tag' w' us xss} (h : InT base tag ei w us xss) (k : ∀ t' e' u zs, OwnT base tag t' e' w u zs → OwnT base tag' t' e' w' u zs) : InT base tag' ei w' us xss := ⟨h.1, fun j u hj => k _ _ _ _ (h.2 j u hj)⟩
theorem InT.nil (base : Nat) (tag : Nat → Nat) (ei : TypeId) (w : World) : InT base tag ei w [] [] := ⟨rfl, fun j u h => by simp at h⟩
theorem InT.bel {base tag ei w w' us xss} (h : InT base tag ei w us xss) (hb : Bel w w') : InT base tag ei w' us xss := ⟨h.1, fun j u hj => (h.2 j u hj).bel hb⟩
/-- A row of tag t becomes the next element. -/
theorem InT.snoc {base tag ei w us xss t v} {xs : List Int} (h : InT base tag ei w us xss) (ho : OwnT base tag t ei w v (xs.map (Value.int .i64))) (ht : t < 10) :
    ∃ tag', InT base tag' ei w (us ++ [v]) (xss ++ [xs]) ∧ ∀ t' e' u zs, t' ≠ t → OwnT base tag t' e' w u zs → OwnT base tag' t' e' w u zs := by
  obtain ⟨tag', h1, h2⟩ := tag_re (10 + us.length) ho
  refine ⟨tag', ⟨by simp [h.1], fun j u hj => ?_⟩, h2⟩
  by_cases e : j < us.length
  · rw [List.getElem?_append_left e] at hj
    have := h2 _ _ _ _ (by omega) (h.2 j u hj)
    rwa [show (xss ++ [xs]).getD j [] = xss.getD j [] from by simp [List.getD, List.getElem?_append_left (show j < xss.length by rw [← h.1]; exact e)]]
  · have hlt := (List.getElem?_eq_some_iff.1 hj).1
    simp at hlt
    obtain rfl : j = us.length := by omega
    rw [List.getElem?_append_right (Nat.le_refl _), Nat.sub_self] at hj
    simp at hj
    subst hj
    rwa [show (xss ++ [xs]).getD us.length [] = xs from by rw [h.1]; simp [List.getD]]
theorem OwnS.of_tag {base tag eo ei w v us xss t} (ho : OwnT base tag t eo w v us) (hi : InT base tag ei w us xss) (ht : t < 10) : OwnS base w.heap.size w v xss := by
  have h1 := ho.1
  rw [hi.1] at h1
  have hblk : ∀ j u, us[j]? = some u → 0 < (xss.getD j []).length → ∃ a n c, u = .slice (some a) n c ∧ u.ownBlock = some a.block ∧ base ≤ a.block ∧ a.block < w.heap.size ∧ tag a.block = 10 + j := by
    intro j u hj hp
    have hx := hi.2 j u hj
    rcases hx.1.2 with ⟨rfl, h0⟩ | ⟨g, cap, cur, rfl, hb, hh, _⟩
    · rw [List.length_map] at h0; omega
    · have hb2 : (Value.slice (some ⟨g, 0, none⟩) ((xss.getD j []).map (Value.int .i64)).length cap).ownBlock = some g := rfl
      exact ⟨⟨g, 0, none⟩, _, cap, rfl, hb2, hb, hx.lt hb2, hx.2 g hb2⟩
  let bs : Nat → Nat := fun j => match us[j]? with | some (.slice (some a) _ _) => a.block | _ => 0
  have hbs : ∀ j u, us[j]? = some u → 0 < (xss.getD j []).length → base ≤ bs j ∧ bs j < w.heap.size ∧ tag (bs j) = 10 + j := by
    intro j u hj hp
    obtain ⟨a, n, c, rfl, _, b1, b2, b3⟩ := hblk j u hj hp
    have : bs j = a.block := by simp only [bs, hj]
    rw [this]; exact ⟨b1, b2, b3⟩
  refine OwnS.of_row (bs := bs) h1 (Nat.le_refl _) fun g hg => ⟨hi.1, fun j hj hp => ?_, fun i j hij hj hpi hpj => ?_, fun j u hj => ?_⟩
  · obtain ⟨u, hu⟩ : ∃ u, us[j]? = some u := ⟨_, List.getElem?_eq_getElem (by rw [hi.1]; exact hj)⟩
    obtain ⟨a1, a2, a3⟩ := hbs j u hu hp
    refine ⟨a1, a2, fun e => ?_⟩
    have := ho.2 g hg
    rw [e] at a3
    omega
  · obtain ⟨u, hu⟩ : ∃ u, us[i]? = some u := ⟨_, List.getElem?_eq_getElem (by rw [hi.1]; omega)⟩
    obtain ⟨u2, hu2⟩ : ∃ u, us[j]? = some u := ⟨_, List.getElem?_eq_getElem (by rw [hi.1]; exact hj)⟩
    obtain ⟨_, _, a3⟩ := hbs i u hu hpi
    obtain ⟨_, _, b3⟩ := hbs j u2 hu2 hpj
    intro e
    rw [e] at a3
    omega
  · have hx := hi.2 j u hj
    by_cases hp : 0 < (xss.getD j []).length
    · obtain ⟨a, n, c, rfl, _, b1, b2, b3⟩ := hblk j u hj hp
      have : bs j = a.block := by simp only [bs, hj]
      rw [this]
      exact row_oneCell (by simpa using hx.1) rfl hp
    · have h0 := len0 hp
      rw [h0] at hx ⊢
      have := OwnI.of_row (xs := []) (by simpa using hx.1)
      exact this.empty
end Go.Proofs.Ytlcjcihohclmhaa
end
section
/- GoodSubst: both functions. -/
namespace Go.Proofs.Ytlcjcihohclmhaa
open Go.RowKit

def okEmpty (ar t : List Int) : Bool := t.isEmpty || okTerm ar t
def goodSubst (ar : List Int) (b : List (List Int)) : Bool := goodSign ar && (b.length == 12) && b.all (okEmpty ar)

theorem iGoodTerm_vv (l h l' h' : Nat) (v u : Value) (ar t : List Int) (b : Bool) (w : World) (he : okTerm ar t = b) (hg : goodSign ar = true) (ha : ar.length ≤ 1048576) (ht : t.length ≤ 1048576) (hv : SlI l h w v ar) (hu : SlI l' h' w u t) :
    Calls Try.prog 84 #[.agg #[v], u] w (RetV w (.bool b)) := iGoodTerm_v l h l' h' v u ar t b w (by simp [goodTerm, hg, he]) ha ht hv hu
theorem all_falseS (xs : List (List Int)) (p : List Int → Bool) (k : Nat) (hk : k < xs.length) (h : p (xs.getD k []) = false) : xs.all p = false := by
  rw [List.all_eq_false]
  exact ⟨xs[k], List.getElem_mem hk, by simpa [List.getD, hk] using h⟩
theorem all_splitS (xs : List (List Int)) (p : List Int → Bool) (k : Nat) (hk : k < xs.length) (h : (xs.take k).all p = true) : (xs.take (k+1)).all p = p (xs.getD k []) := by
  rw [List.take_succ_eq_append_getElem hk, List.all_append, h]
  simp [List.getD, hk]
theorem all_doneS (xs : List (List Int)) (p : List Int → Bool) (k : Nat) (hk : k ≤ xs.length) (h1 : ¬ k < xs.length) (h : (xs.take k).all p = true) : xs.all p = true := by
  obtain rfl : k = xs.length := by omega
  rwa [List.take_length] at h
theorem okEmpty_nil {ar t : List Int} (h : ¬ 0 < t.length) : okEmpty ar t = true := by rw [len0 h]; rfl
theorem okEmpty_pos {ar t : List Int} (h : 0 < t.length) : okEmpty ar t = okTerm ar t := by
  unfold okEmpty
  cases t with
  | nil => simp at h
  | cons x r => simp

end Go.Proofs.Ytlcjcihohclmhaa
end
section
/- Apply, IsUnifier: both functions; putting terms for variables. -/
namespace Go.Proofs.Ytlcjcihohclmhaa
open Go.RowKit

/-- What stands for an entry of a term. -/
def one1 (b : List (List Int)) (n : Int) : List Int := if n < 0 ∧ 0 < (b.getD (-1 - n).toNat []).length then b.getD (-1 - n).toNat [] else [n]
def appT (b : List (List Int)) (t : List Int) : List Int := t.flatMap (one1 b)
theorem appT_nil (b : List (List Int)) : appT b [] = [] := rfl
theorem appT_succ (b : List (List Int)) (t : List Int) (k : Nat) (hk : k < t.length) : appT b (t.take (k+1)) = appT b (t.take k) ++ one1 b (t.getD k 0) := by
  unfold appT
  rw [List.take_succ_eq_append_getElem hk, List.flatMap_append]
  simp [List.getD, hk]
theorem one1_var {b : List (List Int)} {n : Int} (h : n < 0) (hp : 0 < (b.getD (-1 - n).toNat []).length) : one1 b n = b.getD (-1 - n).toNat [] := by unfold one1; rw [if_pos ⟨h, hp⟩]
theorem one1_free {b : List (List Int)} {n : Int} (hp : ¬ 0 < (b.getD (-1 - n).toNat []).length) : one1 b n = [n] := by unfold one1; rw [if_neg (fun h => hp h.2)]
theorem one1_sym {b : List (List Int)} {n : Int} (h : ¬ n < 0) : one1 b n = [n] := by unfold one1; rw [if_neg (fun h2 => h h2.1)]
def lens40 (b : List (List Int)) : Prop := ∀ j, j < b.length → (b.getD j []).length ≤ 40
theorem getD_len40 {b : List (List Int)} (h : lens40 b) (j : Nat) : (b.getD j []).length ≤ 40 := by
  by_cases hj : j < b.length
  · exact h j hj
  · simp [List.getD, hj]
theorem one1_len {b : List (List Int)} (h : lens40 b) (n : Int) : (one1 b n).length ≤ 40 := by
  unfold one1
  split
  · exact getD_len40 h _
  · simp
theorem appT_len {b : List (List Int)} (h : lens40 b) (t : List Int) : (appT b t).length ≤ 40 * t.length := by
  unfold appT
  induction t with
  | nil => simp
  | cons x r ih =>
    have := one1_len h x
    simp only [List.flatMap_cons, List.length_append, List.length_cons]
    omega
theorem row_app {w : World} {base e : Nat} {v : Value} {acc xs : List Int} (h : w.ownsRow base e 1 v (acc.length + xs.length) (acc.map (Value.int .i64) ++ xs.map (Value.int .i64))) :
    w.ownsRow base e 1 v (acc ++ xs).length ((acc ++ xs).map (Value.int .i64)) := by simpa using h

def app40 (b : List (List Int)) (t : List Int) : List Int := if 40 < (appT b t).length then [] else appT b t
def app40ok (b : List (List Int)) (t : List Int) : Bool := !decide (40 < (appT b t).length)
theorem app40_no {b : List (List Int)} {t : List Int} (h : 40 < (appT b t).length) : app40 b t = [] ∧ app40ok b t = false := by simp [app40, app40ok, h]
theorem app40_yes {b : List (List Int)} {t : List Int} (h : ¬ 40 < (appT b t).length) : app40 b t = appT b t ∧ app40ok b t = true := by simp [app40, app40ok, h]
theorem _root_.Go.World.ownsRow.len_eq {w : World} {base e s n m c : Nat} {ad : Option Addr} {xs : List Value} (h : w.ownsRow base e s (.slice ad n c) m xs) : n = m := by
  rcases h.2 with ⟨e1, h0⟩ | ⟨g, cap, cur, e1, _⟩
  · simp at e1; omega
  · simp at e1; exact e1.2.1

end Go.Proofs.Ytlcjcihohclmhaa
end
section
/- l2Apply's result as a row of the call's own. -/
namespace Go.Proofs.Ytlcjcihohclmhaa
open Go.RowKit
end Go.Proofs.Ytlcjcihohclmhaa
end
section
/- Putting terms for variables keeps terms. No program. -/
namespace Go.Proofs.Ytlcjcihohclmhaa

theorem goodSubst_iff {ar : List Int} {b : List (List Int)} : goodSubst ar b = true ↔ goodSign ar = true ∧ b.length = 12 ∧ ∀ t ∈ b, okEmpty ar t = true := by
  simp only [goodSubst, Bool.and_eq_true, beq_iff_eq, List.all_eq_true]
  constructor
  · rintro ⟨⟨h1, h2⟩, h3⟩; exact ⟨h1, h2, h3⟩
  · rintro ⟨h1, h2, h3⟩; exact ⟨⟨h1, h2⟩, h3⟩
theorem okEmpty_get {ar : List Int} {b : List (List Int)} (h : ∀ t ∈ b, okEmpty ar t = true) (j : Nat) (hp : 0 < (b.getD j []).length) : okTerm ar (b.getD j []) = true := by
  have hj : j < b.length := by
    rcases Nat.lt_or_ge j b.length with h1 | h1
    · exact h1
    · simp [List.getD, h1] at hp
  have := h (b.getD j []) (by simp [List.getD, hj])
  rwa [okEmpty_pos hp] at this
theorem goodSubst_len40 {ar : List Int} {b : List (List Int)} (h : goodSubst ar b = true) : lens40 b := by
  obtain ⟨_, _, h3⟩ := goodSubst_iff.1 h
  intro j hj
  by_cases hp : 0 < (b.getD j []).length
  · have := ((okTerm_iff _ _).1 (okEmpty_get h3 j hp)).2.1; omega
  · omega
theorem okSym_low {ar : List Int} {x : Int} (h : okSym ar x = true) : -12 ≤ x := by simp [okSym, inB] at h; omega
theorem okTerm_low {ar t : List Int} (h : okTerm ar t = true) : ∀ k, k < t.length → -12 ≤ t.getD k 0 := fun k hk => okSym_low (good_sym ar t h k hk)

/-- What is put for an entry takes the place of one term. -/
theorem endGo_one1 (ar : List Int) (b : List (List Int)) (hb : ∀ t ∈ b, okEmpty ar t = true) (x : Int) (hx : okSym ar x = true) (s : List Int) (n p : Nat) :
    endGo ar (one1 b x ++ s) (n + 1) p = endGo ar s (n + arOf ar x) (p + (one1 b x).length) := by
  by_cases h : x < 0 ∧ 0 < (b.getD (-1 - x).toNat []).length
  · have ho := okEmpty_get hb _ h.2
    have e : one1 b x = b.getD (-1 - x).toNat [] := by unfold one1; rw [if_pos h]
    rw [e]
    generalize b.getD (-1 - x).toNat [] = T at *
    obtain ⟨h1, h2, h3⟩ := (okTerm_iff _ _).1 ho
    unfold endOf at h3
    rw [List.drop_zero] at h3
    have h4 := endGo_ext ar T s 1 0 _ h3
    have h5 := endGo_shift ar (T ++ s) 1 0 p
    rw [h4] at h5
    rw [Nat.zero_add] at h5
    rw [show n + 1 = 1 + n from by omega, endGo_add, h5, arOf_neg h.1]
    simp only [Option.map_some, Option.bind_some]
    rw [show T.length + p - p = T.length from by omega, List.drop_left, show p + T.length = T.length + p from by omega]
    rfl
  · have e : one1 b x = [x] := by unfold one1; rw [if_neg h]
    rw [e, List.singleton_append, endGo_cons, if_pos hx]
    rfl
theorem endGo_app (ar : List Int) (b : List (List Int)) (hb : ∀ t ∈ b, okEmpty ar t = true) : ∀ (r : List Int) (n p q : Nat), endGo ar r n p = some (p + r.length) → endGo ar (appT b r) n q = some (q + (appT b r).length) := by
  intro r
  induction r with
  | nil =>
    intro n p q h
    cases n with
    | zero => rw [endGo_zero]; rfl
    | succ n => simp [endGo_nil] at h
  | cons x r ih =>
    intro n p q h
    cases n with
    | zero => rw [endGo_zero] at h; simp at h
    | succ n =>
      rw [endGo_cons] at h
      split at h
      · rename_i hx
        have := ih _ (p+1) (q + (one1 b x).length) (by rw [h]; simp; omega)
        show endGo ar (one1 b x ++ appT b r) (n+1) q = _
        rw [endGo_one1 ar b hb x hx, this]
        show _ = some (q + (one1 b x ++ appT b r).length)
        rw [List.length_append]; congr 1; omega
      · simp at h
theorem one1_pos (b : List (List Int)) (x : Int) : 0 < (one1 b x).length := by
  unfold one1; split
  · rename_i h; exact h.2
  · simp
theorem appT_pos (b : List (List Int)) (t : List Int) (h : 0 < t.length) : 0 < (appT b t).length := by
  cases t with
  | nil => simp at h
  | cons x r =>
    show 0 < (one1 b x ++ appT b r).length
    rw [List.length_append]; have := one1_pos b x; omega
theorem app_end {ar t : List Int} {b : List (List Int)} (hb : ∀ t ∈ b, okEmpty ar t = true) (ht : okTerm ar t = true) : endOf ar (appT b t) 0 = some (appT b t).length := by
  obtain ⟨h1, h2, h3⟩ := (okTerm_iff _ _).1 ht
  have := endGo_app ar b hb t 1 0 0 (by unfold endOf at h3; simpa using h3)
  unfold endOf; simpa using this
theorem app_ok {ar t : List Int} {b : List (List Int)} (hb : goodSubst ar b = true) (ht : okTerm ar t = true) : okTerm ar (appT b t) = app40ok b t := by
  obtain ⟨_, _, h3⟩ := goodSubst_iff.1 hb
  have he := app_end h3 ht
  have hp := appT_pos b t (by have := ((okTerm_iff _ _).1 ht).1; omega)
  rw [Bool.eq_iff_iff, okTerm_iff]
  simp [app40ok]
  constructor
  · rintro ⟨_, h, _⟩; exact h
  · intro h; exact ⟨by omega, h, he⟩
def applyOk (ar : List Int) (b : List (List Int)) (t : List Int) : Bool := goodSubst ar b && okTerm ar t && app40ok b t
def applyAns (ar : List Int) (b : List (List Int)) (t : List Int) : List Int := if applyOk ar b t then appT b t else []
theorem applyAns_no {ar t : List Int} {b : List (List Int)} (h : applyOk ar b t = false) : applyAns ar b t = [] := by simp [applyAns, h]
theorem applyAns_yes {ar t : List Int} {b : List (List Int)} (h : applyOk ar b t = true) : applyAns ar b t = appT b t := by simp [applyAns, h]
theorem applyAns_len (ar : List Int) (b : List (List Int)) (t : List Int) : (applyAns ar b t).length ≤ 1048576 := by
  unfold applyAns
  split
  · rename_i h; simp [applyOk, app40ok] at h; omega
  · simp
theorem applyAns_len40 (ar : List Int) (b : List (List Int)) (t : List Int) : (applyAns ar b t).length ≤ 40 := by
  unfold applyAns
  split
  · rename_i h; simp [applyOk, app40ok] at h; omega
  · simp
end Go.Proofs.Ytlcjcihohclmhaa
end
section
/- Renaming variables in the order in which they are met. No program. -/
namespace Go.Proofs.Ytlcjcihohclmhaa
open Go.RowKit

def stepM (met : List Int) (n : Int) : List Int := if n < 0 ∧ n ∉ met then met ++ [n] else met
def valM (met : List Int) (n : Int) : Int := if n < 0 then -1 - (met.idxOf n : Int) else n
def metT (met : List Int) (t : List Int) : List Int := t.foldl stepM met
def renT : List Int → List Int → List Int
  | _, [] => []
  | met, x :: r => valM (stepM met x) x :: renT (stepM met x) r
def metS (met : List Int) (l : List (List Int)) : List Int := l.foldl metT met
def renS : List Int → List (List Int) → List (List Int)
  | _, [] => []
  | met, t :: r => renT met t :: renS (metT met t) r

theorem renT_app (met a b : List Int) : renT met (a ++ b) = renT met a ++ renT (metT met a) b := by
  induction a generalizing met with
  | nil => rfl
  | cons x a ih => simp [renT, ih, metT]
theorem renS_app (met : List Int) (a b : List (List Int)) : renS met (a ++ b) = renS met a ++ renS (metS met a) b := by
  induction a generalizing met with
  | nil => rfl
  | cons x a ih => simp [renS, ih, metS]
theorem renT_len (met t : List Int) : (renT met t).length = t.length := by
  induction t generalizing met with
  | nil => rfl
  | cons x t ih => simp [renT, ih]
theorem renS_len (met : List Int) (l : List (List Int)) : (renS met l).length = l.length := by
  induction l generalizing met with
  | nil => rfl
  | cons x t ih => simp [renS, ih]
theorem metT_succ (met t : List Int) (k : Nat) (h : k < t.length) : metT met (t.take (k+1)) = stepM (metT met (t.take k)) (t.getD k 0) := by
  unfold metT
  rw [List.take_succ_eq_append_getElem h, List.foldl_append]
  simp [List.getD, h]
theorem renT_succ (met t : List Int) (k : Nat) (h : k < t.length) : renT met (t.take (k+1)) = renT met (t.take k) ++ [valM (stepM (metT met (t.take k)) (t.getD k 0)) (t.getD k 0)] := by
  rw [List.take_succ_eq_append_getElem h, renT_app]
  simp [renT, List.getD, h]
theorem metS_succ (met : List Int) (l : List (List Int)) (k : Nat) (h : k < l.length) : metS met (l.take (k+1)) = metT (metS met (l.take k)) (l.getD k []) := by
  unfold metS
  rw [List.take_succ_eq_append_getElem h, List.foldl_append]
  simp [List.getD, h]
theorem renS_succ (met : List Int) (l : List (List Int)) (k : Nat) (h : k < l.length) : renS met (l.take (k+1)) = renS met (l.take k) ++ [renT (metS met (l.take k)) (l.getD k [])] := by
  rw [List.take_succ_eq_append_getElem h, renS_app]
  simp [renS, List.getD, h]
/-- Those met are negative. -/
def negM (met : List Int) : Prop := ∀ x ∈ met, x < 0
theorem negM.step {met : List Int} (h : negM met) (n : Int) : negM (stepM met n) := by
  unfold stepM
  split
  · rename_i h1
    intro x hx
    rcases List.mem_append.1 hx with h2 | h2
    · exact h x h2
    · simp at h2; omega
  · exact h
theorem negM.metT {met : List Int} (h : negM met) (t : List Int) : negM (metT met t) := by
  unfold Go.Proofs.Ytlcjcihohclmhaa.metT
  induction t generalizing met with
  | nil => exact h
  | cons x t ih => exact ih (h.step x)
theorem negM.metS {met : List Int} (h : negM met) (l : List (List Int)) : negM (metS met l) := by
  unfold Go.Proofs.Ytlcjcihohclmhaa.metS
  induction l generalizing met with
  | nil => exact h
  | cons x t ih => exact ih (h.metT x)
theorem stepM_mem (met : List Int) (n : Int) (h : n < 0) : n ∈ stepM met n := by
  unfold stepM
  split
  · simp
  · rename_i h1
    exact Classical.byContradiction fun h2 => h1 ⟨h, h2⟩
theorem stepM_len (met : List Int) (n : Int) : (stepM met n).length ≤ met.length + 1 := by unfold stepM; split <;> simp
theorem metT_len (met t : List Int) : (metT met t).length ≤ met.length + t.length := by
  unfold metT
  induction t generalizing met with
  | nil => simp
  | cons x t ih =>
    have h1 := ih (stepM met x)
    have h2 := stepM_len met x
    simp only [List.foldl_cons, List.length_cons]
    omega
theorem metS_len {l : List (List Int)} (met : List Int) (h : ∀ t ∈ l, t.length ≤ 40) : (metS met l).length ≤ met.length + 40 * l.length := by
  unfold metS
  induction l generalizing met with
  | nil => simp
  | cons x t ih =>
    have h1 := ih (metT met x) (fun t ht => h t (List.mem_cons_of_mem _ ht))
    have h2 := metT_len met x
    have h3 := h x List.mem_cons_self
    simp only [List.foldl_cons, List.length_cons]
    omega
theorem stepM_new {met : List Int} {n : Int} (h : n < 0) (h2 : n ∉ met) : stepM met n = met ++ [n] := by unfold stepM; rw [if_pos ⟨h, h2⟩]
theorem stepM_old {met : List Int} {n : Int} (h2 : n ∈ met) : stepM met n = met := by unfold stepM; rw [if_neg (fun h => h.2 h2)]
theorem stepM_sym {met : List Int} {n : Int} (h2 : ¬ n < 0) : stepM met n = met := by unfold stepM; rw [if_neg (fun h => h2 h.1)]
theorem idx_first {M : List Int} {n : Int} {k : Nat} (hk : k < M.length) (he : M.getD k 0 = n) (hn : n ∉ M.take k) : M.idxOf n = k := by
  conv => lhs; rw [← List.take_append_drop k M]
  rw [List.idxOf_append, if_neg hn, List.drop_eq_getElem_cons hk]
  have : M[k] = n := by simpa [List.getD, hk] using he
  rw [this, List.idxOf_cons_self]
  simp; omega
theorem val_found {M : List Int} {n : Int} {k : Nat} (h : negM M) (hk : k < M.length) (he : M.getD k 0 = n) (hn : n ∉ M.take k) : valM M n = -1 - (k : Int) := by
  have h1 : n < 0 := by rw [← he]; exact h _ (by simp [List.getD, hk])
  unfold valM
  rw [if_pos h1, idx_first hk he hn]
theorem val_end {M : List Int} {n : Int} (h : n < 0 → n ∈ M) (hn : n ∉ M) : valM M n = n := by
  unfold valM
  rw [if_neg (fun h1 => hn (h h1))]
theorem not_take_succ {M : List Int} {n : Int} {k : Nat} (hk : k < M.length) (he : M.getD k 0 ≠ n) (hn : n ∉ M.take k) : n ∉ M.take (k+1) := by
  rw [List.take_succ_eq_append_getElem hk, List.mem_append, List.mem_singleton]
  rintro (h | h)
  · exact hn h
  · exact he (by simpa [List.getD, hk] using h.symm)

theorem tag_snoc {base tag t e w w1 v v'} {acc : List Int} {x : Int} (h : OwnT base tag t e w v (acc.map (Value.int .i64))) (hown : w1.ownsRow base e 1 v' ((acc.map (Value.int .i64)).length + 1) (acc.map (Value.int .i64) ++ [.int .i64 x])) (hg : w.grownBy w1 v.ownBlock) (hat : v'.ownBlock = v.ownBlock ∨ v'.ownBlock = some w.heap.size) :
    ∃ tag', OwnT base tag' t e w1 v' ((acc ++ [x]).map (Value.int .i64)) ∧ Tags base tag w tag' w1 t := tag_append h (by simpa using hown) hg hat
theorem tag_snocV {base tag t e w w1 v v' u} {us : List Value} (h : OwnT base tag t e w v us) (hown : w1.ownsRow base e 1 v' (us.length + 1) (us ++ [u])) (hg : w.grownBy w1 v.ownBlock) (hat : v'.ownBlock = v.ownBlock ∨ v'.ownBlock = some w.heap.size) :
    ∃ tag', OwnT base tag' t e w1 v' (us ++ [u]) ∧ Tags base tag w tag' w1 t := tag_append h (by simpa using hown) hg hat
theorem SlI.at {lo hi : Nat} {w : World} {ad : Option Addr} {n c : Nat} {xs : List Int} (h : SlI lo hi w (.slice ad n c) xs) (k : Nat) (hk : k < xs.length) :
    ∃ b off, ad = some ⟨b, off, none⟩ ∧ b < w.heap.size ∧ w.cell? ⟨b, off + k, none⟩ = some (.int .i64 (xs.getD k 0)) := by
  obtain ⟨ad', cap, e, _, _, hr⟩ := h
  obtain ⟨b, off, e2, _, _, hc⟩ := hr (by omega)
  simp only [Value.slice.injEq] at e
  exact ⟨b, off, e.1.trans e2, World.block_lt_of_cell? w ⟨b, off + k, none⟩ (hc k hk), hc k hk⟩
theorem OwnT.sl {base tag t e w v} {xs : List Int} (h : OwnT base tag t e w v (xs.map (Value.int .i64))) : SlI base w.heap.size w v xs := (OwnI.of_row (by simpa using h.1)).sl
theorem Bel.grownT {base tag t e w0 w v xs w' o} (hb : Bel w0 w) (h : OwnT base tag t e w v xs) (hbase : w0.heap.size ≤ base) (g : (w.alloc o).grownBy w' v.ownBlock) : Bel w0 w' :=
  (hb.alloc o).grown g (fun k hk => by have := own_base h.1 k hk; omega)
end Go.Proofs.Ytlcjcihohclmhaa
end
section
/- slices.Sort at []int: the library's contract laid at this program (which functions and types stand for which). -/
namespace Go.Proofs.Ytlcjcihohclmhaa
open Go.Shelf
end Go.Proofs.Ytlcjcihohclmhaa
end
section
/- Maps from variables to terms: what they hold, by variable; the library's sort; the variables of a map. -/
namespace Go.Proofs.Ytlcjcihohclmhaa
open Go.RowKit Go.Maps

/-- An element reads as itself. -/
def rawE : Value → Option (DataW Value × List MemPlace) := fun v => some (.held v, [])
theorem keyInt : Keyed Try.prog 3 := int_keyed Try.underlying3
abbrev kv (v : Nat) : Lit := .int .i64 v
theorem kv_inj {u v : Nat} (h : kv u = kv v) : u = v := by simp [kv] at h; omega
theorem kv_ne {u v : Nat} (h : u ≠ v) : kv u ≠ kv v := fun e => h (kv_inj e)
theorem kv_wf {v : Nat} (h : v < 12) : (Lit.int .i64 (v : Int)).wf = true := by
  simp only [Lit.wf, Bool.and_eq_true, decide_eq_true_eq]
  have h1 : IntKind.i64.min = -9223372036854775808 := rfl
  have h2 : IntKind.i64.max = 9223372036854775807 := rfl
  omega
theorem kv_key {v : Nat} (h : v < 12) : keyOf Try.prog 3 (.int .i64 (v : Int)) = some (kv v) := keyOf_int_mk Try.underlying3 (kv_wf h)
theorem kv_lit {v : Nat} (h : v < 12) : WideAt.IsKeyLit (kv v) := keyInt.key (kv_key h)
theorem zeroI (w : World) : (zeroValue 24).run Try.prog w = .ok (.slice none 0 0) w := by kernel_rfl
/-- The datum D holds f at the twelve variables, and nothing else. -/
structure KeyAt (D : DataW Value) (f : Nat → Option Value) : Prop where
  has : ∀ v, v < 12 → Maps.has D (kv v) = (f v).isSome
  at' : ∀ v u, v < 12 → f v = some u → ∀ z, D.atKey (kv v) z = .held u
  only : ∀ kl, Maps.has D kl = true → ∃ v, v < 12 ∧ kl = kv v
theorem KeyAt.empty : KeyAt (.map []) (fun _ => none) := ⟨fun _ _ => rfl, fun _ _ _ h => by simp at h, fun kl h => by simp [Maps.has] at h⟩
theorem KeyAt.put {D : DataW Value} {f : Nat → Option Value} (h : KeyAt D f) (hD : IsMap D) {v : Nat} (hv : v < 12) (u : Value) : KeyAt (D.put (kv v) (.held u)) (fun i => if i = v then some u else f i) := by
  refine ⟨fun i hi => ?_, fun i x hi hx z => ?_, fun kl hk => ?_⟩
  · by_cases e : i = v
    · subst e; rw [has_put_same hD (kv_lit hi)]; simp
    · rw [has_put_other (kv_ne e), h.has i hi]; simp [e]
  · by_cases e : i = v
    · subst e
      simp only [if_true, Option.some.injEq] at hx
      subst hx
      exact atKey_put_same hD (kv_lit hi) _ _
    · simp only [e, if_false] at hx
      rw [atKey_put_other (kv_ne e)]; exact h.at' i x hi hx z
  · by_cases e : kl = kv v
    · exact ⟨v, hv, e⟩
    · rw [has_put_other e] at hk; exact h.only kl hk
theorem KeyAt.del {D : DataW Value} {f : Nat → Option Value} (h : KeyAt D f) (v : Nat) : KeyAt (D.del (kv v)) (fun i => if i = v then none else f i) := by
  refine ⟨fun i hi => ?_, fun i x hi hx z => ?_, fun kl hk => ?_⟩
  · by_cases e : i = v
    · subst e; rw [has_del_same]; simp
    · rw [has_del_other (kv_ne e), h.has i hi]; simp [e]
  · by_cases e : i = v
    · subst e; simp at hx
    · simp only [e, if_false] at hx
      rw [atKey_del_other (kv_ne e)]; exact h.at' i x hi hx z
  · by_cases e : kl = kv v
    · subst e; rw [has_del_same] at hk; simp at hk
    · rw [has_del_other e] at hk; exact h.only kl hk
theorem KeyAt.at0 {D : DataW Value} {f : Nat → Option Value} (h : KeyAt D f) {v : Nat} (hv : v < 12) : D.atKey (kv v) (.held (.slice none 0 0)) = .held ((f v).getD (.slice none 0 0)) := by
  cases e : f v with
  | none => exact atKey_of_not_has (by rw [h.has v hv, e]; rfl) _
  | some u => exact h.at' v u hv e _

/-- Block b is a map that holds f; at most m stores went into it. -/
def MapV (w : World) (b m : Nat) (f : Nat → Option Value) : Prop := ∃ n D, n ≤ m ∧ w.ownsMap Try.prog 3 rawE b n D ∧ KeyAt D f
theorem MapV.made (w : World) : MapV (w.alloc (.map #[] 0)) w.heap.size 0 (fun _ => none) := ⟨0, .map [], Nat.le_refl _, World.ownsMap_made _ _ _ _, KeyAt.empty⟩
theorem MapV.kept {w w' : World} {b m : Nat} {f : Nat → Option Value} {row : Option Nat} (h : MapV w b m f) (hg : w.grownBy w' row) (hne : some b ≠ row) : MapV w' b m f := by
  obtain ⟨n, D, hn, ho, hk⟩ := h
  exact ⟨n, D, hn, ho.kept hg hne, hk⟩
theorem grown_of_bel {w w' : World} (h : Bel w w') : w.grownBy w' none := ⟨h.os, h.tape, h.output, h.size, fun k hk _ => h.block k hk⟩
theorem MapV.bel {w w' : World} {b m : Nat} {f : Nat → Option Value} (h : MapV w b m f) (hb : Bel w w') : MapV w' b m f := h.kept (grown_of_bel hb) (by simp)
theorem MapV.lt {w : World} {b m : Nat} {f : Nat → Option Value} (h : MapV w b m f) : b < w.heap.size := by obtain ⟨n, D, _, ho, _⟩ := h; exact ho.lt
theorem MapV.mono {w : World} {b m m' : Nat} {f : Nat → Option Value} (h : MapV w b m f) (hm : m ≤ m') : MapV w b m' f := by obtain ⟨n, D, hn, ho, hk⟩ := h; exact ⟨n, D, by omega, ho, hk⟩
theorem same_kv (u v : Nat) : (kv u).sameKey (kv v) = decide (u = v) := by
  by_cases h : u = v
  · subst h
    have : (kv u).sameKey (kv u) = true := by simp [Lit.sameKey]
    simpa using this
  · rw [sameKey_ne (kv_ne h)]; simp [h]
def castL (l : List Nat) : List Int := l.map fun (n : Nat) => (n : Int)
theorem castL_snoc (l : List Nat) (v : Nat) : castL (l ++ [v]) = castL l ++ [(v : Int)] := by simp [castL]
theorem mem_castL {l : List Nat} {x : Int} : x ∈ castL l ↔ ∃ v ∈ l, (v : Int) = x := by simp [castL]
theorem lenN : ∀ (n : Nat) (l : List Nat), l.Nodup → (∀ v ∈ l, v < n) → l.length ≤ n := by
  intro n
  induction n with
  | zero =>
    intro l _ h
    cases l with
    | nil => simp
    | cons x r => exact absurd (h x List.mem_cons_self) (by omega)
  | succ n ih =>
    intro l hd h
    by_cases hm : n ∈ l
    · have := ih (l.erase n) (hd.erase n) (fun v hv => by
        have h1 := (List.Nodup.mem_erase_iff hd).1 hv
        have := h v h1.2
        omega)
      rw [List.length_erase_of_mem hm] at this
      omega
    · have := ih l hd (fun v hv => by
        have := h v hv
        have : v ≠ n := fun e => hm (e ▸ hv)
        omega)
      omega
/-- Twelve at most. -/
theorem len12 {l : List Nat} (h : l.Nodup) (h12 : ∀ v ∈ l, v < 12) : l.length ≤ 12 := lenN 12 l h h12
end Go.Proofs.Ytlcjcihohclmhaa
end
section
/- The variables of a map of bindings. -/
namespace Go.Proofs.Ytlcjcihohclmhaa
open Go.RowKit Go.Maps

/-- The collected ones, while the loop is under way. -/
structure Coll (D : DataW Value) (left : Lit → Bool) (acc : List Nat) : Prop where
  nodup : acc.Nodup
  mem : ∀ v, v ∈ acc ↔ v < 12 ∧ Maps.has D (kv v) = true ∧ left (kv v) = false
  sub : ∀ kl, left kl = true → Maps.has D kl = true
theorem Coll.start (D : DataW Value) : Coll D (Maps.has D) [] := ⟨List.nodup_nil, fun v => by simp, fun _ h => h⟩
theorem Coll.step {D : DataW Value} {left : Lit → Bool} {acc : List Nat} {v : Nat} (h : Coll D left acc) (hv : v < 12) (hl : left (kv v) = true) : Coll D (fun z => left z && !z.sameKey (kv v)) (acc ++ [v]) := by
  refine ⟨?_, fun u => ?_, fun kl hk => h.sub kl (by simp at hk; exact hk.1)⟩
  · rw [List.nodup_append]
    refine ⟨h.nodup, by simp, fun a ha b hb => ?_⟩
    simp at hb
    subst hb
    intro e
    subst e
    have := ((h.mem a).1 ha).2.2
    rw [hl] at this; simp at this
  · rw [List.mem_append, List.mem_singleton, h.mem u]
    simp only [same_kv]
    by_cases e : u = v
    · subst e; simp [hv, h.sub _ hl]
    · simp [e]
def RetVars (f : Nat → Option Value) (w : World) (e : Ending) (w' : World) : Prop :=
  ∃ ad n c, ∃ ys : List Int, e = .returned (.slice ad n c) ∧ OwnI w.heap.size w'.heap.size w' (.slice ad n c) ys ∧ ys.length ≤ 12 ∧ ys.Nodup ∧ (∀ y ∈ ys, ∃ v : Nat, v < 12 ∧ y = v) ∧ (∀ v : Nat, v < 12 → ((v : Int) ∈ ys ↔ (f v).isSome = true)) ∧ Bel w w'

end Go.Proofs.Ytlcjcihohclmhaa
end
section
/- RenameOf: the inner functions. -/
namespace Go.Proofs.Ytlcjcihohclmhaa
open Go.RowKit

def rows40 (l : List (List Int)) : Prop := l.length ≤ 20 ∧ ∀ j, j < l.length → (l.getD j []).length ≤ 40 ∧ ∀ k, k < (l.getD j []).length → -12 ≤ (l.getD j []).getD k 0
theorem rows40.mem {l : List (List Int)} (h : rows40 l) : ∀ t ∈ l, t.length ≤ 40 := by
  intro t ht
  obtain ⟨j, hj, rfl⟩ := List.getElem_of_mem ht
  have := (h.2 j hj).1
  simpa [List.getD, hj] using this
theorem rows40.met {l : List (List Int)} (h : rows40 l) (k : Nat) : (metS [] (l.take k)).length ≤ 800 := by
  have h1 := metS_len (l := l.take k) [] (fun t ht => h.mem t (List.mem_of_mem_take ht))
  have h2 := h.1
  simp at h1
  omega
theorem news_oneV (w : World) (x : Value) (t : TypeId) : ∀ j u, [x][j]? = some u → (w.alloc (.cells #[x] t)).cell? ((⟨w.heap.size, 0, none⟩ : Addr).add j) = some u := news_one w x t
theorem one_slice (a : Option Addr) (n c : Nat) : ∀ u ∈ [Value.slice a n c], u.oneCell' = true := by intro u hu; simp at hu; subst hu; rfl

end Go.Proofs.Ytlcjcihohclmhaa
end
