/- append of a row of ints to a row of ints, at a step of a region that draws. -/
import Derived.Test.YtfhljkjcjnfjfaaVars3
import Derived.Deep.AppendLies
import Derived.Laws.AppendOwnNone
namespace Go.Proofs.Ytfhljkjcjnfjfaa
open Go.RowKit

theorem step_append_row {w : World} {ops : Array Oper} {o : Oper} {a : Act} {K : Act → World → Prop} {Q : Exit → Act → World → Prop} {E : Prop} (hgd : o.guard = none) (s x : Operand) (d : Nat) (hd : o.dst = some d)
    (ho : o.op = .call { callee := .builtin .append, args := #[s, x], argTypes := #[22, 22] })
    (base base2 : Nat) (v y : Value) (xs ys : List Int) (hs : a.eval s = v) (hown : RowI base w v xs) (hx : a.eval x = y) (hy : RowI base2 w y ys)
    (hl : xs.length + ys.length ≤ 1099511627776) (hbase : base ≤ w.heap.size)
    (h : ∀ ad n c w', RowI base w' (.slice ad n c) (xs ++ ys) → w.grownBy w' v.ownBlock → K (a.put (some d) (.slice ad n c)) w') :
    if Region.wanted o (yielded ops a.tmps) = true then Oper.wp Try.prog o a w K Q else E := by
  obtain ⟨i0, hi0, hz0, hz1, hz2⟩ := info_parts Try.info3
  have hw : Region.wanted o (yielded ops a.tmps) = true := by simp [Region.wanted, hgd]
  rw [if_pos hw]
  rw [← hd] at h
  rcases hy.2 with ⟨rfl, hn⟩ | ⟨g, cap, cur, rfl, hg, hh, hn, hc, hsz, ht⟩
  · have he : ys = [] := List.length_eq_zero_iff.1 hn
    subst he
    obtain ⟨ad, n, c, rfl⟩ := own_form hown
    have hrun := run_append_owned_none (P := Try.prog) (w := w) base 22 o.type 3 i0 1 Try.underlying22 hi0 (.slice ad n c) xs.length (xs.map (Value.int .i64)) hown
    unfold Oper.wp
    simp [execOp, ho, resolve, invoke, builtin, hs, hx, hrun, Result.andThen]
    exact h ad n c w (by simpa using hown) (World.grownBy.refl _ _)
  · refine wp_append_own w s x 22 ho base 3 i0 (.int .i64 0) 1 8 Try.underlying22 hi0 hz0 hz1 hz2 rfl (by decide) v xs.length (xs.map (Value.int .i64)) hs hown
      ⟨g, 0, none⟩ ys.length cap (ys.map (Value.int .i64)) hx (by simp) (hy.cells rfl) (ones_int _) (by unfold maxLen; omega) (by omega) hbase (fun v' w' h1 h2 _ => ?_)
    obtain ⟨ad, n, c, rfl⟩ := own_form h1
    exact h ad n c w' (by simpa [RowI] using h1) h2
end Go.Proofs.Ytfhljkjcjnfjfaa
