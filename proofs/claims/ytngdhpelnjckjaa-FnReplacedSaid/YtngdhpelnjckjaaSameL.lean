/- The laws' own comparisons. -/
import Derived.Test.YtngdhpelnjckjaaSame
import Derived.Test.YtngdhpelnjckjaaSS2
namespace Go.Proofs.Ytngdhpelnjckjaa
open Go.RowKit

set_option maxRecDepth 100000 in
theorem sameTerm_c (l h l' h' : Nat) (v u : Value) (xs ys : List Int) (w : World) (hx : xs.length ≤ 1048576) (hy : ys.length ≤ 1048576) (hv : SlI l h w v xs) (hu : SlI l' h' w u ys) :
    Calls Try.prog 26 #[v, u] w (RetV w (.bool (decide (xs = ys)))) := by
  go_enter Try.func26, Try.ntmps26
  go_wp2_with fail
  refine (sameInts_c _ _ _ _ _ _ xs ys w hx hy hv hu).mono ?_; rintro e w1 ⟨rfl, hb⟩
  go_wp2_with fail
  go_ret
  exact ⟨rfl, hb⟩
set_option maxRecDepth 100000 in
theorem big_no (n m c d : Nat) (a b : Option Addr) (w : World) (hn : n ≤ 1048576) (hm : n + m ≤ 1048576) :
    Calls Try.prog 16 #[.slice a n c, .slice b m d] w (RetV w (.bool false)) := by
  have h1 : decide ((1048576 : Int) < n) = false := by simp; omega
  have h2 : decide ((1048576 : Int) - n < m) = false := by simp; omega
  have hw := IntWalk.i64_in ((1048576 : Int) - n) (by omega)
  go_enter Try.func16, Try.ntmps16
  go_wp2_with fail
  go_ret
  exact ⟨rfl, Bel.rfl' _⟩
set_option maxRecDepth 100000 in
theorem big_yes (n m c d : Nat) (a b : Option Addr) (w : World) (hn : n ≤ 9223372036854775807) (h : ¬ (n ≤ 1048576 ∧ n + m ≤ 1048576)) :
    Calls Try.prog 16 #[.slice a n c, .slice b m d] w (RetV w (.bool true)) := by
  by_cases h0 : 1048576 < n
  · have h1 : decide ((1048576 : Int) < n) = true := by simp; omega
    go_enter Try.func16, Try.ntmps16
    go_wp2_with fail
    go_ret
    exact ⟨rfl, Bel.rfl' _⟩
  · have h1 : decide ((1048576 : Int) < n) = false := by simp; omega
    have h2 : decide ((1048576 : Int) - n < m) = true := by simp; omega
    have hw := IntWalk.i64_in ((1048576 : Int) - n) (by omega)
    go_enter Try.func16, Try.ntmps16
    go_wp2_with fail
    go_ret
    exact ⟨rfl, Bel.rfl' _⟩
end Go.Proofs.Ytngdhpelnjckjaa
