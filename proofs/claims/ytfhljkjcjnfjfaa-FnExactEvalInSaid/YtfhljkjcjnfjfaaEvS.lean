/- Chapter 5, the reference: the value of a term, EvalIn. -/
import Derived.Test.YtfhljkjcjnfjfaaEvB
import Derived.Test.YtfhljkjcjnfjfaaWoT
import Derived.Test.YtfhljkjcjnfjfaaArgs
import Derived.Test.YtfhljkjcjnfjfaaDepth
namespace Go.Proofs.Ytfhljkjcjnfjfaa
open Go.RowKit

theorem evF_eq {ar t : List Int} {sz : Int} {tb : List (List Int)} {env : List Int} (h : okTerm ar t = true) {i : Nat} (hi : i < t.length) (h0 : ¬ t.getD i 0 < 0) :
    evF ar t sz tb env (t.length - i) i = entry sz tb (t.getD i 0) ((argsOf ar t i).map fun a => evF ar t sz tb env (t.length - a) a) := by
  obtain ⟨g, hg⟩ : ∃ g, t.length - i = g + 1 := ⟨t.length - i - 1, by omega⟩
  rw [hg, evF, if_neg h0]
  congr 1
  apply List.map_congr_left
  intro a ha
  have hb := argsOf_bd ar t h i hi a ha
  exact evF_fuel h g a (by omega) hb.2
theorem noOf_take {sz : Int} (f : Nat → Int) (l : List Nat) (k : Nat) (hk : k < l.length) : noOf sz ((l.take (k+1)).map f) = noOf sz ((l.take k).map f) * sz + f (l.getD k 0) := by
  rw [List.take_succ_eq_append_getElem hk, List.map_append]
  simp only [List.map_cons, List.map_nil]
  rw [noOf_snoc]
  simp [List.getD, hk]
end Go.Proofs.Ytfhljkjcjnfjfaa
