/-
  No cell of these rows narrows 'for every input' (looked for: loops, veiled, ifaces, maps, wideKeys, modest, calm, conditions, laid).
  DERIVED. THE GIVEN ROWS OF THIS SEAT. 6 by the template 'for every input the law returns true; each argument reads behind the call as it read before'; 0 by the template 'total and deterministic' (their statements: YtikllmdmifecpaaTotals.lean).
  GIVEN WITH THE SEED: the statements are not yours to turn. If you find one false, say at which input.
  Laid BY PROGRAM, IN A SANDBOX (cutbox-rows.mjs): the forced cells as the released guide's own fill.sh prints them over the translation 3e56e632d1e5849a… (all of the seat's roots in one cut). By AI agents, Wed Nov 11 2026. No macro, syntax, notation, axiom, sorry.
-/
import Derived.Test.YtikllmdmifecpaaChecked
import GoSem.Claim
import GoSem.ClaimJoined
import GoSem.ClaimMapViews
import Derived.JoinedTies
import Derived.KernelRfl
namespace Go.Proofs.Ytikllmdmifecpaa
/- THE CELL 'sum', in the pinned program and in every row, IS THE sha256 OF THE DUMP (.gsa) THAT YtikllmdmifecpaaProg.lean LOADS. Nothing in Lean hashes anything: it is a label: what it is worth is what the hold of that sum in a sandbox is worth. -/
noncomputable def Try.pinned : Pinned := { name := "ytikllmdmifecpaa", sum := "3e56e632d1e5849aa50a43f92493537e7d1ab930d5e3e6d4f7ee49c0abaf4e88", checked := Try.checked }
namespace Rows
def none {H : Type} : Left H := { results := [], args := [] }

/-- 'laws.FnExactMatch': WHATEVER THE INPUT: true; the input reads as it did. -/
def fnExactMatchSpec : ChangeSpec := { name := "fnExactMatch", fn := fun _ => fun
  | [d1, d2, d3] => { results := [.lit (.bool true)], args := [d1, d2, d3] }
  | _ => none }
def fnExactMatchRow : OpenClaim := { program := "ytikllmdmifecpaa", sum := "3e56e632d1e5849aa50a43f92493537e7d1ab930d5e3e6d4f7ee49c0abaf4e88", func := "loop.example/g00682/laws.FnExactMatch", spec := "fnExactMatch", recurses := true, apart := false }
def FnExactMatchSaid : Prop := fnExactMatchRow.holds Try.pinned (OpenSpec.ofChange fnExactMatchSpec)

/-- ITS FALSE NEIGHBOUR: 'it returns false'. Refute it at one input. -/
def fnExactMatchWrong : ChangeSpec := { name := "fnExactMatch", fn := fun _ => fun
  | [d1, d2, d3] => { results := [.lit (.bool false)], args := [d1, d2, d3] }
  | _ => none }
def FnExactMatchWrongFalsely : Prop := fnExactMatchRow.holds Try.pinned (OpenSpec.ofChange fnExactMatchWrong)

/-- 'laws.FnMatched': WHATEVER THE INPUT: true; the input reads as it did. -/
def fnMatchedSpec : ChangeSpec := { name := "fnMatched", fn := fun _ => fun
  | [d1, d2] => { results := [.lit (.bool true)], args := [d1, d2] }
  | _ => none }
def fnMatchedRow : OpenClaim := { program := "ytikllmdmifecpaa", sum := "3e56e632d1e5849aa50a43f92493537e7d1ab930d5e3e6d4f7ee49c0abaf4e88", func := "loop.example/g00682/laws.FnMatched", spec := "fnMatched", recurses := true, apart := false }
def FnMatchedSaid : Prop := fnMatchedRow.holds Try.pinned (OpenSpec.ofChange fnMatchedSpec)

/-- ITS FALSE NEIGHBOUR: 'it returns false'. Refute it at one input. -/
def fnMatchedWrong : ChangeSpec := { name := "fnMatched", fn := fun _ => fun
  | [d1, d2] => { results := [.lit (.bool false)], args := [d1, d2] }
  | _ => none }
def FnMatchedWrongFalsely : Prop := fnMatchedRow.holds Try.pinned (OpenSpec.ofChange fnMatchedWrong)

/-- 'laws.FnExactApplyClause': WHATEVER THE INPUT: true; the input reads as it did. -/
def fnExactApplyClauseSpec : ChangeSpec := { name := "fnExactApplyClause", fn := fun _ => fun
  | [d1, d2, d3] => { results := [.lit (.bool true)], args := [d1, d2, d3] }
  | _ => none }
def fnExactApplyClauseRow : OpenClaim := { program := "ytikllmdmifecpaa", sum := "3e56e632d1e5849aa50a43f92493537e7d1ab930d5e3e6d4f7ee49c0abaf4e88", func := "loop.example/g00682/laws.FnExactApplyClause", spec := "fnExactApplyClause", unfollowed := true, recurses := true, apart := false }
def FnExactApplyClauseSaid : Prop := fnExactApplyClauseRow.holds Try.pinned (OpenSpec.ofChange fnExactApplyClauseSpec)

/-- ITS FALSE NEIGHBOUR: 'it returns false'. Refute it at one input. -/
def fnExactApplyClauseWrong : ChangeSpec := { name := "fnExactApplyClause", fn := fun _ => fun
  | [d1, d2, d3] => { results := [.lit (.bool false)], args := [d1, d2, d3] }
  | _ => none }
def FnExactApplyClauseWrongFalsely : Prop := fnExactApplyClauseRow.holds Try.pinned (OpenSpec.ofChange fnExactApplyClauseWrong)

/-- 'laws.FnExactApartClauses': WHATEVER THE INPUT: true; the input reads as it did. -/
def fnExactApartClausesSpec : ChangeSpec := { name := "fnExactApartClauses", fn := fun _ => fun
  | [d1, d2, d3] => { results := [.lit (.bool true)], args := [d1, d2, d3] }
  | _ => none }
def fnExactApartClausesRow : OpenClaim := { program := "ytikllmdmifecpaa", sum := "3e56e632d1e5849aa50a43f92493537e7d1ab930d5e3e6d4f7ee49c0abaf4e88", func := "loop.example/g00682/laws.FnExactApartClauses", spec := "fnExactApartClauses", unfollowed := true, recurses := true, apart := false }
def FnExactApartClausesSaid : Prop := fnExactApartClausesRow.holds Try.pinned (OpenSpec.ofChange fnExactApartClausesSpec)

/-- ITS FALSE NEIGHBOUR: 'it returns false'. Refute it at one input. -/
def fnExactApartClausesWrong : ChangeSpec := { name := "fnExactApartClauses", fn := fun _ => fun
  | [d1, d2, d3] => { results := [.lit (.bool false)], args := [d1, d2, d3] }
  | _ => none }
def FnExactApartClausesWrongFalsely : Prop := fnExactApartClausesRow.holds Try.pinned (OpenSpec.ofChange fnExactApartClausesWrong)

/-- 'laws.FnTidied': WHATEVER THE INPUT: true; the input reads as it did. -/
def fnTidiedSpec : ChangeSpec := { name := "fnTidied", fn := fun _ => fun
  | [d1, d2] => { results := [.lit (.bool true)], args := [d1, d2] }
  | _ => none }
def fnTidiedRow : OpenClaim := { program := "ytikllmdmifecpaa", sum := "3e56e632d1e5849aa50a43f92493537e7d1ab930d5e3e6d4f7ee49c0abaf4e88", func := "loop.example/g00682/laws.FnTidied", spec := "fnTidied", unfollowed := true, recurses := true, apart := false }
def FnTidiedSaid : Prop := fnTidiedRow.holds Try.pinned (OpenSpec.ofChange fnTidiedSpec)

/-- ITS FALSE NEIGHBOUR: 'it returns false'. Refute it at one input. -/
def fnTidiedWrong : ChangeSpec := { name := "fnTidied", fn := fun _ => fun
  | [d1, d2] => { results := [.lit (.bool false)], args := [d1, d2] }
  | _ => none }
def FnTidiedWrongFalsely : Prop := fnTidiedRow.holds Try.pinned (OpenSpec.ofChange fnTidiedWrong)

/-- 'laws.FnClauseText': WHATEVER THE INPUT: true; the input reads as it did. -/
def fnClauseTextSpec : ChangeSpec := { name := "fnClauseText", fn := fun _ => fun
  | [d1, d2] => { results := [.lit (.bool true)], args := [d1, d2] }
  | _ => none }
def fnClauseTextRow : OpenClaim := { program := "ytikllmdmifecpaa", sum := "3e56e632d1e5849aa50a43f92493537e7d1ab930d5e3e6d4f7ee49c0abaf4e88", func := "loop.example/g00682/laws.FnClauseText", spec := "fnClauseText", inPlace := ["internal/abi.NoEscape", "internal/bytealg.MakeNoZero", "internal/bytealg.IndexByteString"], recurses := true, apart := false }
def FnClauseTextSaid : Prop := fnClauseTextRow.holds Try.pinned (OpenSpec.ofChange fnClauseTextSpec)

/-- ITS FALSE NEIGHBOUR: 'it returns false'. Refute it at one input. -/
def fnClauseTextWrong : ChangeSpec := { name := "fnClauseText", fn := fun _ => fun
  | [d1, d2] => { results := [.lit (.bool false)], args := [d1, d2] }
  | _ => none }
def FnClauseTextWrongFalsely : Prop := fnClauseTextRow.holds Try.pinned (OpenSpec.ofChange fnClauseTextWrong)

/- THE SECOND FORM. 'bulk': how many values and letters a reading holds, each counted each time it is reached (what is shared counts as often as it is met; a slice's spare places count too). A statement '..UptoSaid' is the law's where the arguments, and the package variables that the reading takes, are together of bulk at most 1048576: NARROWER than '..Said'. Prove '..Said' where nothing that the law and all that it calls make is longer than what came in: it says more and counts as full. Else prove '..UptoSaid'. A law counts once. -/
mutual
def uptoBulk {H : Type} : DataW H → Nat
  | .lit (.string bytes) => bytes.length + 1
  | .lit _ => 1
  | .nil => 1
  | .ptr d => uptoBulk d + 1
  | .slice elems spare => uptoBulkAll elems + uptoBulkAll spare + 1
  | .agg parts => uptoBulkAll parts + 1
  | .iface _ d => uptoBulk d + 1
  | .map entries => uptoBulkEntries entries + 1
  | .held _ => 1
def uptoBulkAll {H : Type} : List (DataW H) → Nat
  | [] => 0
  | d :: r => uptoBulk d + uptoBulkAll r
def uptoBulkEntries {H : Type} : List (Lit × DataW H) → Nat
  | [] => 0
  | x :: r => uptoBulkEntry x + uptoBulkEntries r
def uptoBulkEntry {H : Type} : Lit × DataW H → Nat
  | (.string bytes, d) => bytes.length + uptoBulk d + 1
  | (_, d) => uptoBulk d + 1
 end
def uptoSmall : (H : Type) → List (DataW H) → Bool := fun _ ds => decide (uptoBulkAll ds ≤ 1048576)
def OpenSpec.upto (s : _root_.Go.ChangeSpec) : _root_.Go.OpenSpec := { _root_.Go.OpenSpec.ofChange s with cond := some uptoSmall }

/-- 'laws.FnExactMatch', WHERE WHAT IT READS IS OF BULK AT MOST 1048576: true; the input reads as it did. -/
def fnExactMatchUptoRow : OpenClaim := { program := "ytikllmdmifecpaa", sum := "3e56e632d1e5849aa50a43f92493537e7d1ab930d5e3e6d4f7ee49c0abaf4e88", func := "loop.example/g00682/laws.FnExactMatch", spec := "fnExactMatch", recurses := true, apart := false, narrowed := true }
def FnExactMatchUptoSaid : Prop := fnExactMatchUptoRow.holds Try.pinned (OpenSpec.upto fnExactMatchSpec)

/-- 'laws.FnMatched', WHERE WHAT IT READS IS OF BULK AT MOST 1048576: true; the input reads as it did. -/
def fnMatchedUptoRow : OpenClaim := { program := "ytikllmdmifecpaa", sum := "3e56e632d1e5849aa50a43f92493537e7d1ab930d5e3e6d4f7ee49c0abaf4e88", func := "loop.example/g00682/laws.FnMatched", spec := "fnMatched", recurses := true, apart := false, narrowed := true }
def FnMatchedUptoSaid : Prop := fnMatchedUptoRow.holds Try.pinned (OpenSpec.upto fnMatchedSpec)

/-- 'laws.FnExactApplyClause', WHERE WHAT IT READS IS OF BULK AT MOST 1048576: true; the input reads as it did. -/
def fnExactApplyClauseUptoRow : OpenClaim := { program := "ytikllmdmifecpaa", sum := "3e56e632d1e5849aa50a43f92493537e7d1ab930d5e3e6d4f7ee49c0abaf4e88", func := "loop.example/g00682/laws.FnExactApplyClause", spec := "fnExactApplyClause", unfollowed := true, recurses := true, apart := false, narrowed := true }
def FnExactApplyClauseUptoSaid : Prop := fnExactApplyClauseUptoRow.holds Try.pinned (OpenSpec.upto fnExactApplyClauseSpec)

/-- 'laws.FnExactApartClauses', WHERE WHAT IT READS IS OF BULK AT MOST 1048576: true; the input reads as it did. -/
def fnExactApartClausesUptoRow : OpenClaim := { program := "ytikllmdmifecpaa", sum := "3e56e632d1e5849aa50a43f92493537e7d1ab930d5e3e6d4f7ee49c0abaf4e88", func := "loop.example/g00682/laws.FnExactApartClauses", spec := "fnExactApartClauses", unfollowed := true, recurses := true, apart := false, narrowed := true }
def FnExactApartClausesUptoSaid : Prop := fnExactApartClausesUptoRow.holds Try.pinned (OpenSpec.upto fnExactApartClausesSpec)

/-- 'laws.FnTidied', WHERE WHAT IT READS IS OF BULK AT MOST 1048576: true; the input reads as it did. -/
def fnTidiedUptoRow : OpenClaim := { program := "ytikllmdmifecpaa", sum := "3e56e632d1e5849aa50a43f92493537e7d1ab930d5e3e6d4f7ee49c0abaf4e88", func := "loop.example/g00682/laws.FnTidied", spec := "fnTidied", unfollowed := true, recurses := true, apart := false, narrowed := true }
def FnTidiedUptoSaid : Prop := fnTidiedUptoRow.holds Try.pinned (OpenSpec.upto fnTidiedSpec)

/-- 'laws.FnClauseText', WHERE WHAT IT READS IS OF BULK AT MOST 1048576: true; the input reads as it did. -/
def fnClauseTextUptoRow : OpenClaim := { program := "ytikllmdmifecpaa", sum := "3e56e632d1e5849aa50a43f92493537e7d1ab930d5e3e6d4f7ee49c0abaf4e88", func := "loop.example/g00682/laws.FnClauseText", spec := "fnClauseText", inPlace := ["internal/abi.NoEscape", "internal/bytealg.MakeNoZero", "internal/bytealg.IndexByteString"], recurses := true, apart := false, narrowed := true }
def FnClauseTextUptoSaid : Prop := fnClauseTextUptoRow.holds Try.pinned (OpenSpec.upto fnClauseTextSpec)

end Rows
end Go.Proofs.Ytikllmdmifecpaa
