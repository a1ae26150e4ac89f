/-
  No cell of these rows narrows 'for every input' (looked for: loops, veiled, ifaces, maps, wideKeys, modest, calm, conditions, laid).
  DERIVED. THE GIVEN ROWS OF THIS SEAT. 12 by the template 'for every input the law returns true; each argument reads behind the call as it read before'; 0 by the template 'total and deterministic' (their statements: YtfhljkjcjnfjfaaTotals.lean).
  GIVEN WITH THE SEED: the statements are not yours to turn. If you find one false, say at which input.
  Laid BY PROGRAM, IN A SANDBOX (cutbox-rows.mjs): the forced cells as the released guide's own fill.sh prints them over the translation 25073b1c08997c92… (all of the seat's roots in one cut). By AI agents, Wed Nov 11 2026. No macro, syntax, notation, axiom, sorry.
-/
import Derived.Test.YtfhljkjcjnfjfaaChecked
import GoSem.Claim
import GoSem.ClaimJoined
import GoSem.ClaimMapViews
import Derived.JoinedTies
import Derived.KernelRfl
namespace Go.Proofs.Ytfhljkjcjnfjfaa
/- THE CELL 'sum', in the pinned program and in every row, IS THE sha256 OF THE DUMP (.gsa) THAT YtfhljkjcjnfjfaaProg.lean LOADS. Nothing in Lean hashes anything: it is a label: what it is worth is what the hold of that sum in a sandbox is worth. -/
noncomputable def Try.pinned : Pinned := { name := "ytfhljkjcjnfjfaa", sum := "25073b1c08997c92cf4fb3f69a3cde1887d0f3c1190a572687ba12840ea7bff2", checked := Try.checked }
namespace Rows
def none {H : Type} : Left H := { results := [], args := [] }

/-- 'laws.FnExactVarsIn': WHATEVER THE INPUT: true; the input reads as it did. -/
def fnExactVarsInSpec : ChangeSpec := { name := "fnExactVarsIn", fn := fun _ => fun
  | [d1, d2] => { results := [.lit (.bool true)], args := [d1, d2] }
  | _ => none }
def fnExactVarsInRow : OpenClaim := { program := "ytfhljkjcjnfjfaa", sum := "25073b1c08997c92cf4fb3f69a3cde1887d0f3c1190a572687ba12840ea7bff2", func := "loop.example/g00682/laws.FnExactVarsIn", spec := "fnExactVarsIn", apart := false }
def FnExactVarsInSaid : Prop := fnExactVarsInRow.holds Try.pinned (OpenSpec.ofChange fnExactVarsInSpec)

/-- ITS FALSE NEIGHBOUR: 'it returns false'. Refute it at one input. -/
def fnExactVarsInWrong : ChangeSpec := { name := "fnExactVarsIn", fn := fun _ => fun
  | [d1, d2] => { results := [.lit (.bool false)], args := [d1, d2] }
  | _ => none }
def FnExactVarsInWrongFalsely : Prop := fnExactVarsInRow.holds Try.pinned (OpenSpec.ofChange fnExactVarsInWrong)

/-- 'laws.FnExactGoodWorld': WHATEVER THE INPUT: true; the input reads as it did. -/
def fnExactGoodWorldSpec : ChangeSpec := { name := "fnExactGoodWorld", fn := fun _ => fun
  | [d1, d2] => { results := [.lit (.bool true)], args := [d1, d2] }
  | _ => none }
def fnExactGoodWorldRow : OpenClaim := { program := "ytfhljkjcjnfjfaa", sum := "25073b1c08997c92cf4fb3f69a3cde1887d0f3c1190a572687ba12840ea7bff2", func := "loop.example/g00682/laws.FnExactGoodWorld", spec := "fnExactGoodWorld", apart := false }
def FnExactGoodWorldSaid : Prop := fnExactGoodWorldRow.holds Try.pinned (OpenSpec.ofChange fnExactGoodWorldSpec)

/-- ITS FALSE NEIGHBOUR: 'it returns false'. Refute it at one input. -/
def fnExactGoodWorldWrong : ChangeSpec := { name := "fnExactGoodWorld", fn := fun _ => fun
  | [d1, d2] => { results := [.lit (.bool false)], args := [d1, d2] }
  | _ => none }
def FnExactGoodWorldWrongFalsely : Prop := fnExactGoodWorldRow.holds Try.pinned (OpenSpec.ofChange fnExactGoodWorldWrong)

/-- 'laws.FnExactCountWorlds': WHATEVER THE INPUT: true; the input reads as it did. -/
def fnExactCountWorldsSpec : ChangeSpec := { name := "fnExactCountWorlds", fn := fun _ => fun
  | [d1, d2] => { results := [.lit (.bool true)], args := [d1, d2] }
  | _ => none }
def fnExactCountWorldsRow : OpenClaim := { program := "ytfhljkjcjnfjfaa", sum := "25073b1c08997c92cf4fb3f69a3cde1887d0f3c1190a572687ba12840ea7bff2", func := "loop.example/g00682/laws.FnExactCountWorlds", spec := "fnExactCountWorlds", apart := false }
def FnExactCountWorldsSaid : Prop := fnExactCountWorldsRow.holds Try.pinned (OpenSpec.ofChange fnExactCountWorldsSpec)

/-- ITS FALSE NEIGHBOUR: 'it returns false'. Refute it at one input. -/
def fnExactCountWorldsWrong : ChangeSpec := { name := "fnExactCountWorlds", fn := fun _ => fun
  | [d1, d2] => { results := [.lit (.bool false)], args := [d1, d2] }
  | _ => none }
def FnExactCountWorldsWrongFalsely : Prop := fnExactCountWorldsRow.holds Try.pinned (OpenSpec.ofChange fnExactCountWorldsWrong)

/-- 'laws.FnExactWorldAt': WHATEVER THE INPUT: true; the input reads as it did. -/
def fnExactWorldAtSpec : ChangeSpec := { name := "fnExactWorldAt", fn := fun _ => fun
  | [d1, d2, d3] => { results := [.lit (.bool true)], args := [d1, d2, d3] }
  | _ => none }
def fnExactWorldAtRow : OpenClaim := { program := "ytfhljkjcjnfjfaa", sum := "25073b1c08997c92cf4fb3f69a3cde1887d0f3c1190a572687ba12840ea7bff2", func := "loop.example/g00682/laws.FnExactWorldAt", spec := "fnExactWorldAt", apart := false }
def FnExactWorldAtSaid : Prop := fnExactWorldAtRow.holds Try.pinned (OpenSpec.ofChange fnExactWorldAtSpec)

/-- ITS FALSE NEIGHBOUR: 'it returns false'. Refute it at one input. -/
def fnExactWorldAtWrong : ChangeSpec := { name := "fnExactWorldAt", fn := fun _ => fun
  | [d1, d2, d3] => { results := [.lit (.bool false)], args := [d1, d2, d3] }
  | _ => none }
def FnExactWorldAtWrongFalsely : Prop := fnExactWorldAtRow.holds Try.pinned (OpenSpec.ofChange fnExactWorldAtWrong)

/-- 'laws.FnExactEvalIn': WHATEVER THE INPUT: true; the input reads as it did. -/
def fnExactEvalInSpec : ChangeSpec := { name := "fnExactEvalIn", fn := fun _ => fun
  | [d1, d2, d3, d4] => { results := [.lit (.bool true)], args := [d1, d2, d3, d4] }
  | _ => none }
def fnExactEvalInRow : OpenClaim := { program := "ytfhljkjcjnfjfaa", sum := "25073b1c08997c92cf4fb3f69a3cde1887d0f3c1190a572687ba12840ea7bff2", func := "loop.example/g00682/laws.FnExactEvalIn", spec := "fnExactEvalIn", recurses := true, apart := false }
def FnExactEvalInSaid : Prop := fnExactEvalInRow.holds Try.pinned (OpenSpec.ofChange fnExactEvalInSpec)

/-- ITS FALSE NEIGHBOUR: 'it returns false'. Refute it at one input. -/
def fnExactEvalInWrong : ChangeSpec := { name := "fnExactEvalIn", fn := fun _ => fun
  | [d1, d2, d3, d4] => { results := [.lit (.bool false)], args := [d1, d2, d3, d4] }
  | _ => none }
def FnExactEvalInWrongFalsely : Prop := fnExactEvalInRow.holds Try.pinned (OpenSpec.ofChange fnExactEvalInWrong)

/-- 'laws.FnExactHoldsAt': WHATEVER THE INPUT: true; the input reads as it did. -/
def fnExactHoldsAtSpec : ChangeSpec := { name := "fnExactHoldsAt", fn := fun _ => fun
  | [d1, d2, d3, d4] => { results := [.lit (.bool true)], args := [d1, d2, d3, d4] }
  | _ => none }
def fnExactHoldsAtRow : OpenClaim := { program := "ytfhljkjcjnfjfaa", sum := "25073b1c08997c92cf4fb3f69a3cde1887d0f3c1190a572687ba12840ea7bff2", func := "loop.example/g00682/laws.FnExactHoldsAt", spec := "fnExactHoldsAt", recurses := true, apart := false }
def FnExactHoldsAtSaid : Prop := fnExactHoldsAtRow.holds Try.pinned (OpenSpec.ofChange fnExactHoldsAtSpec)

/-- ITS FALSE NEIGHBOUR: 'it returns false'. Refute it at one input. -/
def fnExactHoldsAtWrong : ChangeSpec := { name := "fnExactHoldsAt", fn := fun _ => fun
  | [d1, d2, d3, d4] => { results := [.lit (.bool false)], args := [d1, d2, d3, d4] }
  | _ => none }
def FnExactHoldsAtWrongFalsely : Prop := fnExactHoldsAtRow.holds Try.pinned (OpenSpec.ofChange fnExactHoldsAtWrong)

/-- 'laws.FnExactReadClause': WHATEVER THE INPUT: true; the input reads as it did. -/
def fnExactReadClauseSpec : ChangeSpec := { name := "fnExactReadClause", fn := fun _ => fun
  | [d1, d2] => { results := [.lit (.bool true)], args := [d1, d2] }
  | _ => none }
def fnExactReadClauseRow : OpenClaim := { program := "ytfhljkjcjnfjfaa", sum := "25073b1c08997c92cf4fb3f69a3cde1887d0f3c1190a572687ba12840ea7bff2", func := "loop.example/g00682/laws.FnExactReadClause", spec := "fnExactReadClause", inPlace := ["internal/bytealg.IndexByteString"], recurses := true, apart := false }
def FnExactReadClauseSaid : Prop := fnExactReadClauseRow.holds Try.pinned (OpenSpec.ofChange fnExactReadClauseSpec)

/-- ITS FALSE NEIGHBOUR: 'it returns false'. Refute it at one input. -/
def fnExactReadClauseWrong : ChangeSpec := { name := "fnExactReadClause", fn := fun _ => fun
  | [d1, d2] => { results := [.lit (.bool false)], args := [d1, d2] }
  | _ => none }
def FnExactReadClauseWrongFalsely : Prop := fnExactReadClauseRow.holds Try.pinned (OpenSpec.ofChange fnExactReadClauseWrong)

/-- 'laws.FnPutFor': WHATEVER THE INPUT: true; the input reads as it did. -/
def fnPutForSpec : ChangeSpec := { name := "fnPutFor", fn := fun _ => fun
  | [d1, d2] => { results := [.lit (.bool true)], args := [d1, d2] }
  | _ => none }
def fnPutForRow : OpenClaim := { program := "ytfhljkjcjnfjfaa", sum := "25073b1c08997c92cf4fb3f69a3cde1887d0f3c1190a572687ba12840ea7bff2", func := "loop.example/g00682/laws.FnPutFor", spec := "fnPutFor", recurses := true, apart := false }
def FnPutForSaid : Prop := fnPutForRow.holds Try.pinned (OpenSpec.ofChange fnPutForSpec)

/-- ITS FALSE NEIGHBOUR: 'it returns false'. Refute it at one input. -/
def fnPutForWrong : ChangeSpec := { name := "fnPutFor", fn := fun _ => fun
  | [d1, d2] => { results := [.lit (.bool false)], args := [d1, d2] }
  | _ => none }
def FnPutForWrongFalsely : Prop := fnPutForRow.holds Try.pinned (OpenSpec.ofChange fnPutForWrong)

/-- 'laws.FnExactFalseAt': WHATEVER THE INPUT: true; the input reads as it did. -/
def fnExactFalseAtSpec : ChangeSpec := { name := "fnExactFalseAt", fn := fun _ => fun
  | [d1, d2, d3] => { results := [.lit (.bool true)], args := [d1, d2, d3] }
  | _ => none }
def fnExactFalseAtRow : OpenClaim := { program := "ytfhljkjcjnfjfaa", sum := "25073b1c08997c92cf4fb3f69a3cde1887d0f3c1190a572687ba12840ea7bff2", func := "loop.example/g00682/laws.FnExactFalseAt", spec := "fnExactFalseAt", unfollowed := true, recurses := true, apart := false }
def FnExactFalseAtSaid : Prop := fnExactFalseAtRow.holds Try.pinned (OpenSpec.ofChange fnExactFalseAtSpec)

/-- ITS FALSE NEIGHBOUR: 'it returns false'. Refute it at one input. -/
def fnExactFalseAtWrong : ChangeSpec := { name := "fnExactFalseAt", fn := fun _ => fun
  | [d1, d2, d3] => { results := [.lit (.bool false)], args := [d1, d2, d3] }
  | _ => none }
def FnExactFalseAtWrongFalsely : Prop := fnExactFalseAtRow.holds Try.pinned (OpenSpec.ofChange fnExactFalseAtWrong)

/-- 'laws.FnExactHoldsIn': WHATEVER THE INPUT: true; the input reads as it did. -/
def fnExactHoldsInSpec : ChangeSpec := { name := "fnExactHoldsIn", fn := fun _ => fun
  | [d1, d2, d3] => { results := [.lit (.bool true)], args := [d1, d2, d3] }
  | _ => none }
def fnExactHoldsInRow : OpenClaim := { program := "ytfhljkjcjnfjfaa", sum := "25073b1c08997c92cf4fb3f69a3cde1887d0f3c1190a572687ba12840ea7bff2", func := "loop.example/g00682/laws.FnExactHoldsIn", spec := "fnExactHoldsIn", unfollowed := true, recurses := true, apart := false }
def FnExactHoldsInSaid : Prop := fnExactHoldsInRow.holds Try.pinned (OpenSpec.ofChange fnExactHoldsInSpec)

/-- ITS FALSE NEIGHBOUR: 'it returns false'. Refute it at one input. -/
def fnExactHoldsInWrong : ChangeSpec := { name := "fnExactHoldsIn", fn := fun _ => fun
  | [d1, d2, d3] => { results := [.lit (.bool false)], args := [d1, d2, d3] }
  | _ => none }
def FnExactHoldsInWrongFalsely : Prop := fnExactHoldsInRow.holds Try.pinned (OpenSpec.ofChange fnExactHoldsInWrong)

/-- 'laws.FnExactAllHold': WHATEVER THE INPUT: true; the input reads as it did. -/
def fnExactAllHoldSpec : ChangeSpec := { name := "fnExactAllHold", fn := fun _ => fun
  | [d1, d2, d3] => { results := [.lit (.bool true)], args := [d1, d2, d3] }
  | _ => none }
def fnExactAllHoldRow : OpenClaim := { program := "ytfhljkjcjnfjfaa", sum := "25073b1c08997c92cf4fb3f69a3cde1887d0f3c1190a572687ba12840ea7bff2", func := "loop.example/g00682/laws.FnExactAllHold", spec := "fnExactAllHold", unfollowed := true, recurses := true, apart := false }
def FnExactAllHoldSaid : Prop := fnExactAllHoldRow.holds Try.pinned (OpenSpec.ofChange fnExactAllHoldSpec)

/-- ITS FALSE NEIGHBOUR: 'it returns false'. Refute it at one input. -/
def fnExactAllHoldWrong : ChangeSpec := { name := "fnExactAllHold", fn := fun _ => fun
  | [d1, d2, d3] => { results := [.lit (.bool false)], args := [d1, d2, d3] }
  | _ => none }
def FnExactAllHoldWrongFalsely : Prop := fnExactAllHoldRow.holds Try.pinned (OpenSpec.ofChange fnExactAllHoldWrong)

/-- 'laws.FnExactFindWorld': WHATEVER THE INPUT: true; the input reads as it did. -/
def fnExactFindWorldSpec : ChangeSpec := { name := "fnExactFindWorld", fn := fun _ => fun
  | [d1, d2, d3] => { results := [.lit (.bool true)], args := [d1, d2, d3] }
  | _ => none }
def fnExactFindWorldRow : OpenClaim := { program := "ytfhljkjcjnfjfaa", sum := "25073b1c08997c92cf4fb3f69a3cde1887d0f3c1190a572687ba12840ea7bff2", func := "loop.example/g00682/laws.FnExactFindWorld", spec := "fnExactFindWorld", unfollowed := true, recurses := true, apart := false }
def FnExactFindWorldSaid : Prop := fnExactFindWorldRow.holds Try.pinned (OpenSpec.ofChange fnExactFindWorldSpec)

/-- ITS FALSE NEIGHBOUR: 'it returns false'. Refute it at one input. -/
def fnExactFindWorldWrong : ChangeSpec := { name := "fnExactFindWorld", fn := fun _ => fun
  | [d1, d2, d3] => { results := [.lit (.bool false)], args := [d1, d2, d3] }
  | _ => none }
def FnExactFindWorldWrongFalsely : Prop := fnExactFindWorldRow.holds Try.pinned (OpenSpec.ofChange fnExactFindWorldWrong)

/- THE SECOND FORM. 'bulk': how many values and letters a reading holds, each counted each time it is reached (what is shared counts as often as it is met; a slice's spare places count too). A statement '..UptoSaid' is the law's where the arguments, and the package variables that the reading takes, are together of bulk at most 1048576: NARROWER than '..Said'. Prove '..Said' where nothing that the law and all that it calls make is longer than what came in: it says more and counts as full. Else prove '..UptoSaid'. A law counts once. -/
mutual
def uptoBulk {H : Type} : DataW H → Nat
  | .lit (.string bytes) => bytes.length + 1
  | .lit _ => 1
  | .nil => 1
  | .ptr d => uptoBulk d + 1
  | .slice elems spare => uptoBulkAll elems + uptoBulkAll spare + 1
  | .agg parts => uptoBulkAll parts + 1
  | .iface _ d => uptoBulk d + 1
  | .map entries => uptoBulkEntries entries + 1
  | .held _ => 1
def uptoBulkAll {H : Type} : List (DataW H) → Nat
  | [] => 0
  | d :: r => uptoBulk d + uptoBulkAll r
def uptoBulkEntries {H : Type} : List (Lit × DataW H) → Nat
  | [] => 0
  | x :: r => uptoBulkEntry x + uptoBulkEntries r
def uptoBulkEntry {H : Type} : Lit × DataW H → Nat
  | (.string bytes, d) => bytes.length + uptoBulk d + 1
  | (_, d) => uptoBulk d + 1
 end
def uptoSmall : (H : Type) → List (DataW H) → Bool := fun _ ds => decide (uptoBulkAll ds ≤ 1048576)
def OpenSpec.upto (s : _root_.Go.ChangeSpec) : _root_.Go.OpenSpec := { _root_.Go.OpenSpec.ofChange s with cond := some uptoSmall }

/-- 'laws.FnExactVarsIn', WHERE WHAT IT READS IS OF BULK AT MOST 1048576: true; the input reads as it did. -/
def fnExactVarsInUptoRow : OpenClaim := { program := "ytfhljkjcjnfjfaa", sum := "25073b1c08997c92cf4fb3f69a3cde1887d0f3c1190a572687ba12840ea7bff2", func := "loop.example/g00682/laws.FnExactVarsIn", spec := "fnExactVarsIn", apart := false, narrowed := true }
def FnExactVarsInUptoSaid : Prop := fnExactVarsInUptoRow.holds Try.pinned (OpenSpec.upto fnExactVarsInSpec)

/-- 'laws.FnExactGoodWorld', WHERE WHAT IT READS IS OF BULK AT MOST 1048576: true; the input reads as it did. -/
def fnExactGoodWorldUptoRow : OpenClaim := { program := "ytfhljkjcjnfjfaa", sum := "25073b1c08997c92cf4fb3f69a3cde1887d0f3c1190a572687ba12840ea7bff2", func := "loop.example/g00682/laws.FnExactGoodWorld", spec := "fnExactGoodWorld", apart := false, narrowed := true }
def FnExactGoodWorldUptoSaid : Prop := fnExactGoodWorldUptoRow.holds Try.pinned (OpenSpec.upto fnExactGoodWorldSpec)

/-- 'laws.FnExactCountWorlds', WHERE WHAT IT READS IS OF BULK AT MOST 1048576: true; the input reads as it did. -/
def fnExactCountWorldsUptoRow : OpenClaim := { program := "ytfhljkjcjnfjfaa", sum := "25073b1c08997c92cf4fb3f69a3cde1887d0f3c1190a572687ba12840ea7bff2", func := "loop.example/g00682/laws.FnExactCountWorlds", spec := "fnExactCountWorlds", apart := false, narrowed := true }
def FnExactCountWorldsUptoSaid : Prop := fnExactCountWorldsUptoRow.holds Try.pinned (OpenSpec.upto fnExactCountWorldsSpec)

/-- 'laws.FnExactWorldAt', WHERE WHAT IT READS IS OF BULK AT MOST 1048576: true; the input reads as it did. -/
def fnExactWorldAtUptoRow : OpenClaim := { program := "ytfhljkjcjnfjfaa", sum := "25073b1c08997c92cf4fb3f69a3cde1887d0f3c1190a572687ba12840ea7bff2", func := "loop.example/g00682/laws.FnExactWorldAt", spec := "fnExactWorldAt", apart := false, narrowed := true }
def FnExactWorldAtUptoSaid : Prop := fnExactWorldAtUptoRow.holds Try.pinned (OpenSpec.upto fnExactWorldAtSpec)

/-- 'laws.FnExactEvalIn', WHERE WHAT IT READS IS OF BULK AT MOST 1048576: true; the input reads as it did. -/
def fnExactEvalInUptoRow : OpenClaim := { program := "ytfhljkjcjnfjfaa", sum := "25073b1c08997c92cf4fb3f69a3cde1887d0f3c1190a572687ba12840ea7bff2", func := "loop.example/g00682/laws.FnExactEvalIn", spec := "fnExactEvalIn", recurses := true, apart := false, narrowed := true }
def FnExactEvalInUptoSaid : Prop := fnExactEvalInUptoRow.holds Try.pinned (OpenSpec.upto fnExactEvalInSpec)

/-- 'laws.FnExactHoldsAt', WHERE WHAT IT READS IS OF BULK AT MOST 1048576: true; the input reads as it did. -/
def fnExactHoldsAtUptoRow : OpenClaim := { program := "ytfhljkjcjnfjfaa", sum := "25073b1c08997c92cf4fb3f69a3cde1887d0f3c1190a572687ba12840ea7bff2", func := "loop.example/g00682/laws.FnExactHoldsAt", spec := "fnExactHoldsAt", recurses := true, apart := false, narrowed := true }
def FnExactHoldsAtUptoSaid : Prop := fnExactHoldsAtUptoRow.holds Try.pinned (OpenSpec.upto fnExactHoldsAtSpec)

/-- 'laws.FnExactReadClause', WHERE WHAT IT READS IS OF BULK AT MOST 1048576: true; the input reads as it did. -/
def fnExactReadClauseUptoRow : OpenClaim := { program := "ytfhljkjcjnfjfaa", sum := "25073b1c08997c92cf4fb3f69a3cde1887d0f3c1190a572687ba12840ea7bff2", func := "loop.example/g00682/laws.FnExactReadClause", spec := "fnExactReadClause", inPlace := ["internal/bytealg.IndexByteString"], recurses := true, apart := false, narrowed := true }
def FnExactReadClauseUptoSaid : Prop := fnExactReadClauseUptoRow.holds Try.pinned (OpenSpec.upto fnExactReadClauseSpec)

/-- 'laws.FnPutFor', WHERE WHAT IT READS IS OF BULK AT MOST 1048576: true; the input reads as it did. -/
def fnPutForUptoRow : OpenClaim := { program := "ytfhljkjcjnfjfaa", sum := "25073b1c08997c92cf4fb3f69a3cde1887d0f3c1190a572687ba12840ea7bff2", func := "loop.example/g00682/laws.FnPutFor", spec := "fnPutFor", recurses := true, apart := false, narrowed := true }
def FnPutForUptoSaid : Prop := fnPutForUptoRow.holds Try.pinned (OpenSpec.upto fnPutForSpec)

/-- 'laws.FnExactFalseAt', WHERE WHAT IT READS IS OF BULK AT MOST 1048576: true; the input reads as it did. -/
def fnExactFalseAtUptoRow : OpenClaim := { program := "ytfhljkjcjnfjfaa", sum := "25073b1c08997c92cf4fb3f69a3cde1887d0f3c1190a572687ba12840ea7bff2", func := "loop.example/g00682/laws.FnExactFalseAt", spec := "fnExactFalseAt", unfollowed := true, recurses := true, apart := false, narrowed := true }
def FnExactFalseAtUptoSaid : Prop := fnExactFalseAtUptoRow.holds Try.pinned (OpenSpec.upto fnExactFalseAtSpec)

/-- 'laws.FnExactHoldsIn', WHERE WHAT IT READS IS OF BULK AT MOST 1048576: true; the input reads as it did. -/
def fnExactHoldsInUptoRow : OpenClaim := { program := "ytfhljkjcjnfjfaa", sum := "25073b1c08997c92cf4fb3f69a3cde1887d0f3c1190a572687ba12840ea7bff2", func := "loop.example/g00682/laws.FnExactHoldsIn", spec := "fnExactHoldsIn", unfollowed := true, recurses := true, apart := false, narrowed := true }
def FnExactHoldsInUptoSaid : Prop := fnExactHoldsInUptoRow.holds Try.pinned (OpenSpec.upto fnExactHoldsInSpec)

/-- 'laws.FnExactAllHold', WHERE WHAT IT READS IS OF BULK AT MOST 1048576: true; the input reads as it did. -/
def fnExactAllHoldUptoRow : OpenClaim := { program := "ytfhljkjcjnfjfaa", sum := "25073b1c08997c92cf4fb3f69a3cde1887d0f3c1190a572687ba12840ea7bff2", func := "loop.example/g00682/laws.FnExactAllHold", spec := "fnExactAllHold", unfollowed := true, recurses := true, apart := false, narrowed := true }
def FnExactAllHoldUptoSaid : Prop := fnExactAllHoldUptoRow.holds Try.pinned (OpenSpec.upto fnExactAllHoldSpec)

/-- 'laws.FnExactFindWorld', WHERE WHAT IT READS IS OF BULK AT MOST 1048576: true; the input reads as it did. -/
def fnExactFindWorldUptoRow : OpenClaim := { program := "ytfhljkjcjnfjfaa", sum := "25073b1c08997c92cf4fb3f69a3cde1887d0f3c1190a572687ba12840ea7bff2", func := "loop.example/g00682/laws.FnExactFindWorld", spec := "fnExactFindWorld", unfollowed := true, recurses := true, apart := false, narrowed := true }
def FnExactFindWorldUptoSaid : Prop := fnExactFindWorldUptoRow.holds Try.pinned (OpenSpec.upto fnExactFindWorldSpec)

end Rows
end Go.Proofs.Ytfhljkjcjnfjfaa
