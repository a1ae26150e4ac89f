/-
  No cell of these rows narrows 'for every input' (looked for: loops, veiled, ifaces, maps, wideKeys, modest, calm, conditions, laid).
  DERIVED. THE GIVEN ROWS OF THIS SEAT. 10 by the template 'for every input the law returns true; each argument reads behind the call as it read before'; 0 by the template 'total and deterministic' (their statements: YtajmjjandkdhiaaTotals.lean).
  GIVEN WITH THE SEED: the statements are not yours to turn. If you find one false, say at which input.
  Laid BY PROGRAM, IN A SANDBOX (cutbox-rows.mjs): the forced cells as the released guide's own fill.sh prints them over the translation 1002e695df97a53c… (all of the seat's roots in one cut). By AI agents, Wed Nov 11 2026. No macro, syntax, notation, axiom, sorry.
-/
import Derived.Test.YtajmjjandkdhiaaChecked
import GoSem.Claim
import GoSem.ClaimJoined
import GoSem.ClaimMapViews
import Derived.JoinedTies
import Derived.KernelRfl
namespace Go.Proofs.Ytajmjjandkdhiaa
/- THE CELL 'sum', in the pinned program and in every row, IS THE sha256 OF THE DUMP (.gsa) THAT YtajmjjandkdhiaaProg.lean LOADS. Nothing in Lean hashes anything: it is a label: what it is worth is what the hold of that sum in a sandbox is worth. -/
noncomputable def Try.pinned : Pinned := { name := "ytajmjjandkdhiaa", sum := "1002e695df97a53ca01fbf66638c42fe9379734d2ac95c5b3d03f434ac0d8aaa", checked := Try.checked }
namespace Rows
def none {H : Type} : Left H := { results := [], args := [] }

/-- 'laws.FnClauseText': WHATEVER THE INPUT: true; the input reads as it did. -/
def fnClauseTextSpec : ChangeSpec := { name := "fnClauseText", fn := fun _ => fun
  | [d1, d2] => { results := [.lit (.bool true)], args := [d1, d2] }
  | _ => none }
def fnClauseTextRow : OpenClaim := { program := "ytajmjjandkdhiaa", sum := "1002e695df97a53ca01fbf66638c42fe9379734d2ac95c5b3d03f434ac0d8aaa", func := "loop.example/g00682/laws.FnClauseText", spec := "fnClauseText", inPlace := ["internal/abi.NoEscape", "internal/bytealg.MakeNoZero", "internal/bytealg.IndexByteString"], recurses := true, apart := false }
def FnClauseTextSaid : Prop := fnClauseTextRow.holds Try.pinned (OpenSpec.ofChange fnClauseTextSpec)

/-- ITS FALSE NEIGHBOUR: 'it returns false'. Refute it at one input. -/
def fnClauseTextWrong : ChangeSpec := { name := "fnClauseText", fn := fun _ => fun
  | [d1, d2] => { results := [.lit (.bool false)], args := [d1, d2] }
  | _ => none }
def FnClauseTextWrongFalsely : Prop := fnClauseTextRow.holds Try.pinned (OpenSpec.ofChange fnClauseTextWrong)

/-- 'laws.FnExactGoodClause': WHATEVER THE INPUT: true; the input reads as it did. -/
def fnExactGoodClauseSpec : ChangeSpec := { name := "fnExactGoodClause", fn := fun _ => fun
  | [d1, d2] => { results := [.lit (.bool true)], args := [d1, d2] }
  | _ => none }
def fnExactGoodClauseRow : OpenClaim := { program := "ytajmjjandkdhiaa", sum := "1002e695df97a53ca01fbf66638c42fe9379734d2ac95c5b3d03f434ac0d8aaa", func := "loop.example/g00682/laws.FnExactGoodClause", spec := "fnExactGoodClause", apart := false }
def FnExactGoodClauseSaid : Prop := fnExactGoodClauseRow.holds Try.pinned (OpenSpec.ofChange fnExactGoodClauseSpec)

/-- ITS FALSE NEIGHBOUR: 'it returns false'. Refute it at one input. -/
def fnExactGoodClauseWrong : ChangeSpec := { name := "fnExactGoodClause", fn := fun _ => fun
  | [d1, d2] => { results := [.lit (.bool false)], args := [d1, d2] }
  | _ => none }
def FnExactGoodClauseWrongFalsely : Prop := fnExactGoodClauseRow.holds Try.pinned (OpenSpec.ofChange fnExactGoodClauseWrong)

/-- 'laws.FnExactVarsIn': WHATEVER THE INPUT: true; the input reads as it did. -/
def fnExactVarsInSpec : ChangeSpec := { name := "fnExactVarsIn", fn := fun _ => fun
  | [d1, d2] => { results := [.lit (.bool true)], args := [d1, d2] }
  | _ => none }
def fnExactVarsInRow : OpenClaim := { program := "ytajmjjandkdhiaa", sum := "1002e695df97a53ca01fbf66638c42fe9379734d2ac95c5b3d03f434ac0d8aaa", func := "loop.example/g00682/laws.FnExactVarsIn", spec := "fnExactVarsIn", apart := false }
def FnExactVarsInSaid : Prop := fnExactVarsInRow.holds Try.pinned (OpenSpec.ofChange fnExactVarsInSpec)

/-- ITS FALSE NEIGHBOUR: 'it returns false'. Refute it at one input. -/
def fnExactVarsInWrong : ChangeSpec := { name := "fnExactVarsIn", fn := fun _ => fun
  | [d1, d2] => { results := [.lit (.bool false)], args := [d1, d2] }
  | _ => none }
def FnExactVarsInWrongFalsely : Prop := fnExactVarsInRow.holds Try.pinned (OpenSpec.ofChange fnExactVarsInWrong)

/-- 'laws.FnExactApplyClause': WHATEVER THE INPUT: true; the input reads as it did. -/
def fnExactApplyClauseSpec : ChangeSpec := { name := "fnExactApplyClause", fn := fun _ => fun
  | [d1, d2, d3] => { results := [.lit (.bool true)], args := [d1, d2, d3] }
  | _ => none }
def fnExactApplyClauseRow : OpenClaim := { program := "ytajmjjandkdhiaa", sum := "1002e695df97a53ca01fbf66638c42fe9379734d2ac95c5b3d03f434ac0d8aaa", func := "loop.example/g00682/laws.FnExactApplyClause", spec := "fnExactApplyClause", apart := false }
def FnExactApplyClauseSaid : Prop := fnExactApplyClauseRow.holds Try.pinned (OpenSpec.ofChange fnExactApplyClauseSpec)

/-- ITS FALSE NEIGHBOUR: 'it returns false'. Refute it at one input. -/
def fnExactApplyClauseWrong : ChangeSpec := { name := "fnExactApplyClause", fn := fun _ => fun
  | [d1, d2, d3] => { results := [.lit (.bool false)], args := [d1, d2, d3] }
  | _ => none }
def FnExactApplyClauseWrongFalsely : Prop := fnExactApplyClauseRow.holds Try.pinned (OpenSpec.ofChange fnExactApplyClauseWrong)

/-- 'laws.FnExactRenameClause': WHATEVER THE INPUT: true; the input reads as it did. -/
def fnExactRenameClauseSpec : ChangeSpec := { name := "fnExactRenameClause", fn := fun _ => fun
  | [d1, d2] => { results := [.lit (.bool true)], args := [d1, d2] }
  | _ => none }
def fnExactRenameClauseRow : OpenClaim := { program := "ytajmjjandkdhiaa", sum := "1002e695df97a53ca01fbf66638c42fe9379734d2ac95c5b3d03f434ac0d8aaa", func := "loop.example/g00682/laws.FnExactRenameClause", spec := "fnExactRenameClause", apart := false }
def FnExactRenameClauseSaid : Prop := fnExactRenameClauseRow.holds Try.pinned (OpenSpec.ofChange fnExactRenameClauseSpec)

/-- ITS FALSE NEIGHBOUR: 'it returns false'. Refute it at one input. -/
def fnExactRenameClauseWrong : ChangeSpec := { name := "fnExactRenameClause", fn := fun _ => fun
  | [d1, d2] => { results := [.lit (.bool false)], args := [d1, d2] }
  | _ => none }
def FnExactRenameClauseWrongFalsely : Prop := fnExactRenameClauseRow.holds Try.pinned (OpenSpec.ofChange fnExactRenameClauseWrong)

/-- 'laws.FnExactTidyClause': WHATEVER THE INPUT: true; the input reads as it did. -/
def fnExactTidyClauseSpec : ChangeSpec := { name := "fnExactTidyClause", fn := fun _ => fun
  | [d1, d2] => { results := [.lit (.bool true)], args := [d1, d2] }
  | _ => none }
def fnExactTidyClauseRow : OpenClaim := { program := "ytajmjjandkdhiaa", sum := "1002e695df97a53ca01fbf66638c42fe9379734d2ac95c5b3d03f434ac0d8aaa", func := "loop.example/g00682/laws.FnExactTidyClause", spec := "fnExactTidyClause", apart := false }
def FnExactTidyClauseSaid : Prop := fnExactTidyClauseRow.holds Try.pinned (OpenSpec.ofChange fnExactTidyClauseSpec)

/-- ITS FALSE NEIGHBOUR: 'it returns false'. Refute it at one input. -/
def fnExactTidyClauseWrong : ChangeSpec := { name := "fnExactTidyClause", fn := fun _ => fun
  | [d1, d2] => { results := [.lit (.bool false)], args := [d1, d2] }
  | _ => none }
def FnExactTidyClauseWrongFalsely : Prop := fnExactTidyClauseRow.holds Try.pinned (OpenSpec.ofChange fnExactTidyClauseWrong)

/-- 'laws.FnExactIsTautology': WHATEVER THE INPUT: true; the input reads as it did. -/
def fnExactIsTautologySpec : ChangeSpec := { name := "fnExactIsTautology", fn := fun _ => fun
  | [d1, d2] => { results := [.lit (.bool true)], args := [d1, d2] }
  | _ => none }
def fnExactIsTautologyRow : OpenClaim := { program := "ytajmjjandkdhiaa", sum := "1002e695df97a53ca01fbf66638c42fe9379734d2ac95c5b3d03f434ac0d8aaa", func := "loop.example/g00682/laws.FnExactIsTautology", spec := "fnExactIsTautology", apart := false }
def FnExactIsTautologySaid : Prop := fnExactIsTautologyRow.holds Try.pinned (OpenSpec.ofChange fnExactIsTautologySpec)

/-- ITS FALSE NEIGHBOUR: 'it returns false'. Refute it at one input. -/
def fnExactIsTautologyWrong : ChangeSpec := { name := "fnExactIsTautology", fn := fun _ => fun
  | [d1, d2] => { results := [.lit (.bool false)], args := [d1, d2] }
  | _ => none }
def FnExactIsTautologyWrongFalsely : Prop := fnExactIsTautologyRow.holds Try.pinned (OpenSpec.ofChange fnExactIsTautologyWrong)

/-- 'laws.FnExactWeightOf': WHATEVER THE INPUT: true; the input reads as it did. -/
def fnExactWeightOfSpec : ChangeSpec := { name := "fnExactWeightOf", fn := fun _ => fun
  | [d1, d2] => { results := [.lit (.bool true)], args := [d1, d2] }
  | _ => none }
def fnExactWeightOfRow : OpenClaim := { program := "ytajmjjandkdhiaa", sum := "1002e695df97a53ca01fbf66638c42fe9379734d2ac95c5b3d03f434ac0d8aaa", func := "loop.example/g00682/laws.FnExactWeightOf", spec := "fnExactWeightOf", apart := false }
def FnExactWeightOfSaid : Prop := fnExactWeightOfRow.holds Try.pinned (OpenSpec.ofChange fnExactWeightOfSpec)

/-- ITS FALSE NEIGHBOUR: 'it returns false'. Refute it at one input. -/
def fnExactWeightOfWrong : ChangeSpec := { name := "fnExactWeightOf", fn := fun _ => fun
  | [d1, d2] => { results := [.lit (.bool false)], args := [d1, d2] }
  | _ => none }
def FnExactWeightOfWrongFalsely : Prop := fnExactWeightOfRow.holds Try.pinned (OpenSpec.ofChange fnExactWeightOfWrong)

/-- 'laws.FnExactClauseText': WHATEVER THE INPUT: true; the input reads as it did. -/
def fnExactClauseTextSpec : ChangeSpec := { name := "fnExactClauseText", fn := fun _ => fun
  | [d1, d2] => { results := [.lit (.bool true)], args := [d1, d2] }
  | _ => none }
def fnExactClauseTextRow : OpenClaim := { program := "ytajmjjandkdhiaa", sum := "1002e695df97a53ca01fbf66638c42fe9379734d2ac95c5b3d03f434ac0d8aaa", func := "loop.example/g00682/laws.FnExactClauseText", spec := "fnExactClauseText", inPlace := ["internal/abi.NoEscape", "internal/bytealg.MakeNoZero"], recurses := true, apart := false }
def FnExactClauseTextSaid : Prop := fnExactClauseTextRow.holds Try.pinned (OpenSpec.ofChange fnExactClauseTextSpec)

/-- ITS FALSE NEIGHBOUR: 'it returns false'. Refute it at one input. -/
def fnExactClauseTextWrong : ChangeSpec := { name := "fnExactClauseText", fn := fun _ => fun
  | [d1, d2] => { results := [.lit (.bool false)], args := [d1, d2] }
  | _ => none }
def FnExactClauseTextWrongFalsely : Prop := fnExactClauseTextRow.holds Try.pinned (OpenSpec.ofChange fnExactClauseTextWrong)

/-- 'laws.FnExactReadClause': WHATEVER THE INPUT: true; the input reads as it did. -/
def fnExactReadClauseSpec : ChangeSpec := { name := "fnExactReadClause", fn := fun _ => fun
  | [d1, d2] => { results := [.lit (.bool true)], args := [d1, d2] }
  | _ => none }
def fnExactReadClauseRow : OpenClaim := { program := "ytajmjjandkdhiaa", sum := "1002e695df97a53ca01fbf66638c42fe9379734d2ac95c5b3d03f434ac0d8aaa", func := "loop.example/g00682/laws.FnExactReadClause", spec := "fnExactReadClause", inPlace := ["internal/bytealg.IndexByteString"], recurses := true, apart := false }
def FnExactReadClauseSaid : Prop := fnExactReadClauseRow.holds Try.pinned (OpenSpec.ofChange fnExactReadClauseSpec)

/-- ITS FALSE NEIGHBOUR: 'it returns false'. Refute it at one input. -/
def fnExactReadClauseWrong : ChangeSpec := { name := "fnExactReadClause", fn := fun _ => fun
  | [d1, d2] => { results := [.lit (.bool false)], args := [d1, d2] }
  | _ => none }
def FnExactReadClauseWrongFalsely : Prop := fnExactReadClauseRow.holds Try.pinned (OpenSpec.ofChange fnExactReadClauseWrong)

/- THE SECOND FORM. 'bulk': how many values and letters a reading holds, each counted each time it is reached (what is shared counts as often as it is met; a slice's spare places count too). A statement '..UptoSaid' is the law's where the arguments, and the package variables that the reading takes, are together of bulk at most 1048576: NARROWER than '..Said'. Prove '..Said' where nothing that the law and all that it calls make is longer than what came in: it says more and counts as full. Else prove '..UptoSaid'. A law counts once. -/
mutual
def uptoBulk {H : Type} : DataW H → Nat
  | .lit (.string bytes) => bytes.length + 1
  | .lit _ => 1
  | .nil => 1
  | .ptr d => uptoBulk d + 1
  | .slice elems spare => uptoBulkAll elems + uptoBulkAll spare + 1
  | .agg parts => uptoBulkAll parts + 1
  | .iface _ d => uptoBulk d + 1
  | .map entries => uptoBulkEntries entries + 1
  | .held _ => 1
def uptoBulkAll {H : Type} : List (DataW H) → Nat
  | [] => 0
  | d :: r => uptoBulk d + uptoBulkAll r
def uptoBulkEntries {H : Type} : List (Lit × DataW H) → Nat
  | [] => 0
  | x :: r => uptoBulkEntry x + uptoBulkEntries r
def uptoBulkEntry {H : Type} : Lit × DataW H → Nat
  | (.string bytes, d) => bytes.length + uptoBulk d + 1
  | (_, d) => uptoBulk d + 1
 end
def uptoSmall : (H : Type) → List (DataW H) → Bool := fun _ ds => decide (uptoBulkAll ds ≤ 1048576)
def OpenSpec.upto (s : _root_.Go.ChangeSpec) : _root_.Go.OpenSpec := { _root_.Go.OpenSpec.ofChange s with cond := some uptoSmall }

/-- 'laws.FnClauseText', WHERE WHAT IT READS IS OF BULK AT MOST 1048576: true; the input reads as it did. -/
def fnClauseTextUptoRow : OpenClaim := { program := "ytajmjjandkdhiaa", sum := "1002e695df97a53ca01fbf66638c42fe9379734d2ac95c5b3d03f434ac0d8aaa", func := "loop.example/g00682/laws.FnClauseText", spec := "fnClauseText", inPlace := ["internal/abi.NoEscape", "internal/bytealg.MakeNoZero", "internal/bytealg.IndexByteString"], recurses := true, apart := false, narrowed := true }
def FnClauseTextUptoSaid : Prop := fnClauseTextUptoRow.holds Try.pinned (OpenSpec.upto fnClauseTextSpec)

/-- 'laws.FnExactGoodClause', WHERE WHAT IT READS IS OF BULK AT MOST 1048576: true; the input reads as it did. -/
def fnExactGoodClauseUptoRow : OpenClaim := { program := "ytajmjjandkdhiaa", sum := "1002e695df97a53ca01fbf66638c42fe9379734d2ac95c5b3d03f434ac0d8aaa", func := "loop.example/g00682/laws.FnExactGoodClause", spec := "fnExactGoodClause", apart := false, narrowed := true }
def FnExactGoodClauseUptoSaid : Prop := fnExactGoodClauseUptoRow.holds Try.pinned (OpenSpec.upto fnExactGoodClauseSpec)

/-- 'laws.FnExactVarsIn', WHERE WHAT IT READS IS OF BULK AT MOST 1048576: true; the input reads as it did. -/
def fnExactVarsInUptoRow : OpenClaim := { program := "ytajmjjandkdhiaa", sum := "1002e695df97a53ca01fbf66638c42fe9379734d2ac95c5b3d03f434ac0d8aaa", func := "loop.example/g00682/laws.FnExactVarsIn", spec := "fnExactVarsIn", apart := false, narrowed := true }
def FnExactVarsInUptoSaid : Prop := fnExactVarsInUptoRow.holds Try.pinned (OpenSpec.upto fnExactVarsInSpec)

/-- 'laws.FnExactApplyClause', WHERE WHAT IT READS IS OF BULK AT MOST 1048576: true; the input reads as it did. -/
def fnExactApplyClauseUptoRow : OpenClaim := { program := "ytajmjjandkdhiaa", sum := "1002e695df97a53ca01fbf66638c42fe9379734d2ac95c5b3d03f434ac0d8aaa", func := "loop.example/g00682/laws.FnExactApplyClause", spec := "fnExactApplyClause", apart := false, narrowed := true }
def FnExactApplyClauseUptoSaid : Prop := fnExactApplyClauseUptoRow.holds Try.pinned (OpenSpec.upto fnExactApplyClauseSpec)

/-- 'laws.FnExactRenameClause', WHERE WHAT IT READS IS OF BULK AT MOST 1048576: true; the input reads as it did. -/
def fnExactRenameClauseUptoRow : OpenClaim := { program := "ytajmjjandkdhiaa", sum := "1002e695df97a53ca01fbf66638c42fe9379734d2ac95c5b3d03f434ac0d8aaa", func := "loop.example/g00682/laws.FnExactRenameClause", spec := "fnExactRenameClause", apart := false, narrowed := true }
def FnExactRenameClauseUptoSaid : Prop := fnExactRenameClauseUptoRow.holds Try.pinned (OpenSpec.upto fnExactRenameClauseSpec)

/-- 'laws.FnExactTidyClause', WHERE WHAT IT READS IS OF BULK AT MOST 1048576: true; the input reads as it did. -/
def fnExactTidyClauseUptoRow : OpenClaim := { program := "ytajmjjandkdhiaa", sum := "1002e695df97a53ca01fbf66638c42fe9379734d2ac95c5b3d03f434ac0d8aaa", func := "loop.example/g00682/laws.FnExactTidyClause", spec := "fnExactTidyClause", apart := false, narrowed := true }
def FnExactTidyClauseUptoSaid : Prop := fnExactTidyClauseUptoRow.holds Try.pinned (OpenSpec.upto fnExactTidyClauseSpec)

/-- 'laws.FnExactIsTautology', WHERE WHAT IT READS IS OF BULK AT MOST 1048576: true; the input reads as it did. -/
def fnExactIsTautologyUptoRow : OpenClaim := { program := "ytajmjjandkdhiaa", sum := "1002e695df97a53ca01fbf66638c42fe9379734d2ac95c5b3d03f434ac0d8aaa", func := "loop.example/g00682/laws.FnExactIsTautology", spec := "fnExactIsTautology", apart := false, narrowed := true }
def FnExactIsTautologyUptoSaid : Prop := fnExactIsTautologyUptoRow.holds Try.pinned (OpenSpec.upto fnExactIsTautologySpec)

/-- 'laws.FnExactWeightOf', WHERE WHAT IT READS IS OF BULK AT MOST 1048576: true; the input reads as it did. -/
def fnExactWeightOfUptoRow : OpenClaim := { program := "ytajmjjandkdhiaa", sum := "1002e695df97a53ca01fbf66638c42fe9379734d2ac95c5b3d03f434ac0d8aaa", func := "loop.example/g00682/laws.FnExactWeightOf", spec := "fnExactWeightOf", apart := false, narrowed := true }
def FnExactWeightOfUptoSaid : Prop := fnExactWeightOfUptoRow.holds Try.pinned (OpenSpec.upto fnExactWeightOfSpec)

/-- 'laws.FnExactClauseText', WHERE WHAT IT READS IS OF BULK AT MOST 1048576: true; the input reads as it did. -/
def fnExactClauseTextUptoRow : OpenClaim := { program := "ytajmjjandkdhiaa", sum := "1002e695df97a53ca01fbf66638c42fe9379734d2ac95c5b3d03f434ac0d8aaa", func := "loop.example/g00682/laws.FnExactClauseText", spec := "fnExactClauseText", inPlace := ["internal/abi.NoEscape", "internal/bytealg.MakeNoZero"], recurses := true, apart := false, narrowed := true }
def FnExactClauseTextUptoSaid : Prop := fnExactClauseTextUptoRow.holds Try.pinned (OpenSpec.upto fnExactClauseTextSpec)

/-- 'laws.FnExactReadClause', WHERE WHAT IT READS IS OF BULK AT MOST 1048576: true; the input reads as it did. -/
def fnExactReadClauseUptoRow : OpenClaim := { program := "ytajmjjandkdhiaa", sum := "1002e695df97a53ca01fbf66638c42fe9379734d2ac95c5b3d03f434ac0d8aaa", func := "loop.example/g00682/laws.FnExactReadClause", spec := "fnExactReadClause", inPlace := ["internal/bytealg.IndexByteString"], recurses := true, apart := false, narrowed := true }
def FnExactReadClauseUptoSaid : Prop := fnExactReadClauseUptoRow.holds Try.pinned (OpenSpec.upto fnExactReadClauseSpec)

end Rows
end Go.Proofs.Ytajmjjandkdhiaa
