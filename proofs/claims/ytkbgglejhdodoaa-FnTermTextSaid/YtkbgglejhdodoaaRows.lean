/-
  No cell of these rows narrows 'for every input' (looked for: loops, veiled, ifaces, maps, wideKeys, modest, calm, conditions, laid).
  DERIVED. THE GIVEN ROWS OF THIS SEAT. 5 by the template 'for every input the law returns true; each argument reads behind the call as it read before'; 0 by the template 'total and deterministic' (their statements: YtkbgglejhdodoaaTotals.lean).
  GIVEN WITH THE SEED: the statements are not yours to turn. If you find one false, say at which input.
  Laid BY PROGRAM, IN A SANDBOX (cutbox-rows.mjs): the forced cells as the released guide's own fill.sh prints them over the translation 48cfd83afb51d0c2… (all of the seat's roots in one cut). By AI agents, Wed Nov 11 2026. No macro, syntax, notation, axiom, sorry.
-/
import Derived.Test.YtkbgglejhdodoaaChecked
import GoSem.Claim
import GoSem.ClaimJoined
import GoSem.ClaimMapViews
import Derived.JoinedTies
import Derived.KernelRfl
namespace Go.Proofs.Ytkbgglejhdodoaa
/- THE CELL 'sum', in the pinned program and in every row, IS THE sha256 OF THE DUMP (.gsa) THAT YtkbgglejhdodoaaProg.lean LOADS. Nothing in Lean hashes anything: it is a label: what it is worth is what the hold of that sum in a sandbox is worth. -/
noncomputable def Try.pinned : Pinned := { name := "ytkbgglejhdodoaa", sum := "48cfd83afb51d0c2a48b6a10fe975458e9d3ca504d9c99ca634045d5fdc0d08d", checked := Try.checked }
namespace Rows
def none {H : Type} : Left H := { results := [], args := [] }

/-- 'laws.FnExactLeastGround': WHATEVER THE INPUT: true; the input reads as it did. -/
def fnExactLeastGroundSpec : ChangeSpec := { name := "fnExactLeastGround", fn := fun _ => fun
  | [d] => { results := [.lit (.bool true)], args := [d] }
  | _ => none }
def fnExactLeastGroundRow : OpenClaim := { program := "ytkbgglejhdodoaa", sum := "48cfd83afb51d0c2a48b6a10fe975458e9d3ca504d9c99ca634045d5fdc0d08d", func := "loop.example/g00682/laws.FnExactLeastGround", spec := "fnExactLeastGround", apart := false }
def FnExactLeastGroundSaid : Prop := fnExactLeastGroundRow.holds Try.pinned (OpenSpec.ofChange fnExactLeastGroundSpec)

/-- ITS FALSE NEIGHBOUR: 'it returns false'. Refute it at one input. -/
def fnExactLeastGroundWrong : ChangeSpec := { name := "fnExactLeastGround", fn := fun _ => fun
  | [d] => { results := [.lit (.bool false)], args := [d] }
  | _ => none }
def FnExactLeastGroundWrongFalsely : Prop := fnExactLeastGroundRow.holds Try.pinned (OpenSpec.ofChange fnExactLeastGroundWrong)

/-- 'laws.FnRenamed': WHATEVER THE INPUT: true; the input reads as it did. -/
def fnRenamedSpec : ChangeSpec := { name := "fnRenamed", fn := fun _ => fun
  | [d1, d2] => { results := [.lit (.bool true)], args := [d1, d2] }
  | _ => none }
def fnRenamedRow : OpenClaim := { program := "ytkbgglejhdodoaa", sum := "48cfd83afb51d0c2a48b6a10fe975458e9d3ca504d9c99ca634045d5fdc0d08d", func := "loop.example/g00682/laws.FnRenamed", spec := "fnRenamed", recurses := true, apart := false }
def FnRenamedSaid : Prop := fnRenamedRow.holds Try.pinned (OpenSpec.ofChange fnRenamedSpec)

/-- ITS FALSE NEIGHBOUR: 'it returns false'. Refute it at one input. -/
def fnRenamedWrong : ChangeSpec := { name := "fnRenamed", fn := fun _ => fun
  | [d1, d2] => { results := [.lit (.bool false)], args := [d1, d2] }
  | _ => none }
def FnRenamedWrongFalsely : Prop := fnRenamedRow.holds Try.pinned (OpenSpec.ofChange fnRenamedWrong)

/-- 'laws.FnTermText': WHATEVER THE INPUT: true; the input reads as it did. -/
def fnTermTextSpec : ChangeSpec := { name := "fnTermText", fn := fun _ => fun
  | [d1, d2] => { results := [.lit (.bool true)], args := [d1, d2] }
  | _ => none }
def fnTermTextRow : OpenClaim := { program := "ytkbgglejhdodoaa", sum := "48cfd83afb51d0c2a48b6a10fe975458e9d3ca504d9c99ca634045d5fdc0d08d", func := "loop.example/g00682/laws.FnTermText", spec := "fnTermText", inPlace := ["internal/bytealg.IndexByteString"], recurses := true, apart := false }
def FnTermTextSaid : Prop := fnTermTextRow.holds Try.pinned (OpenSpec.ofChange fnTermTextSpec)

/-- ITS FALSE NEIGHBOUR: 'it returns false'. Refute it at one input. -/
def fnTermTextWrong : ChangeSpec := { name := "fnTermText", fn := fun _ => fun
  | [d1, d2] => { results := [.lit (.bool false)], args := [d1, d2] }
  | _ => none }
def FnTermTextWrongFalsely : Prop := fnTermTextRow.holds Try.pinned (OpenSpec.ofChange fnTermTextWrong)

/-- 'laws.FnExactRenameOf': WHATEVER THE INPUT: true; the input reads as it did. -/
def fnExactRenameOfSpec : ChangeSpec := { name := "fnExactRenameOf", fn := fun _ => fun
  | [d1, d2] => { results := [.lit (.bool true)], args := [d1, d2] }
  | _ => none }
def fnExactRenameOfRow : OpenClaim := { program := "ytkbgglejhdodoaa", sum := "48cfd83afb51d0c2a48b6a10fe975458e9d3ca504d9c99ca634045d5fdc0d08d", func := "loop.example/g00682/laws.FnExactRenameOf", spec := "fnExactRenameOf", apart := false }
def FnExactRenameOfSaid : Prop := fnExactRenameOfRow.holds Try.pinned (OpenSpec.ofChange fnExactRenameOfSpec)

/-- ITS FALSE NEIGHBOUR: 'it returns false'. Refute it at one input. -/
def fnExactRenameOfWrong : ChangeSpec := { name := "fnExactRenameOf", fn := fun _ => fun
  | [d1, d2] => { results := [.lit (.bool false)], args := [d1, d2] }
  | _ => none }
def FnExactRenameOfWrongFalsely : Prop := fnExactRenameOfRow.holds Try.pinned (OpenSpec.ofChange fnExactRenameOfWrong)

/-- 'laws.FnExactSameUpTo': WHATEVER THE INPUT: true; the input reads as it did. -/
def fnExactSameUpToSpec : ChangeSpec := { name := "fnExactSameUpTo", fn := fun _ => fun
  | [d1, d2, d3] => { results := [.lit (.bool true)], args := [d1, d2, d3] }
  | _ => none }
def fnExactSameUpToRow : OpenClaim := { program := "ytkbgglejhdodoaa", sum := "48cfd83afb51d0c2a48b6a10fe975458e9d3ca504d9c99ca634045d5fdc0d08d", func := "loop.example/g00682/laws.FnExactSameUpTo", spec := "fnExactSameUpTo", apart := false }
def FnExactSameUpToSaid : Prop := fnExactSameUpToRow.holds Try.pinned (OpenSpec.ofChange fnExactSameUpToSpec)

/-- ITS FALSE NEIGHBOUR: 'it returns false'. Refute it at one input. -/
def fnExactSameUpToWrong : ChangeSpec := { name := "fnExactSameUpTo", fn := fun _ => fun
  | [d1, d2, d3] => { results := [.lit (.bool false)], args := [d1, d2, d3] }
  | _ => none }
def FnExactSameUpToWrongFalsely : Prop := fnExactSameUpToRow.holds Try.pinned (OpenSpec.ofChange fnExactSameUpToWrong)

/- THE SECOND FORM. 'bulk': how many values and letters a reading holds, each counted each time it is reached (what is shared counts as often as it is met; a slice's spare places count too). A statement '..UptoSaid' is the law's where the arguments, and the package variables that the reading takes, are together of bulk at most 1048576: NARROWER than '..Said'. Prove '..Said' where nothing that the law and all that it calls make is longer than what came in: it says more and counts as full. Else prove '..UptoSaid'. A law counts once. -/
mutual
def uptoBulk {H : Type} : DataW H → Nat
  | .lit (.string bytes) => bytes.length + 1
  | .lit _ => 1
  | .nil => 1
  | .ptr d => uptoBulk d + 1
  | .slice elems spare => uptoBulkAll elems + uptoBulkAll spare + 1
  | .agg parts => uptoBulkAll parts + 1
  | .iface _ d => uptoBulk d + 1
  | .map entries => uptoBulkEntries entries + 1
  | .held _ => 1
def uptoBulkAll {H : Type} : List (DataW H) → Nat
  | [] => 0
  | d :: r => uptoBulk d + uptoBulkAll r
def uptoBulkEntries {H : Type} : List (Lit × DataW H) → Nat
  | [] => 0
  | x :: r => uptoBulkEntry x + uptoBulkEntries r
def uptoBulkEntry {H : Type} : Lit × DataW H → Nat
  | (.string bytes, d) => bytes.length + uptoBulk d + 1
  | (_, d) => uptoBulk d + 1
 end
def uptoSmall : (H : Type) → List (DataW H) → Bool := fun _ ds => decide (uptoBulkAll ds ≤ 1048576)
def OpenSpec.upto (s : _root_.Go.ChangeSpec) : _root_.Go.OpenSpec := { _root_.Go.OpenSpec.ofChange s with cond := some uptoSmall }

/-- 'laws.FnExactLeastGround', WHERE WHAT IT READS IS OF BULK AT MOST 1048576: true; the input reads as it did. -/
def fnExactLeastGroundUptoRow : OpenClaim := { program := "ytkbgglejhdodoaa", sum := "48cfd83afb51d0c2a48b6a10fe975458e9d3ca504d9c99ca634045d5fdc0d08d", func := "loop.example/g00682/laws.FnExactLeastGround", spec := "fnExactLeastGround", apart := false, narrowed := true }
def FnExactLeastGroundUptoSaid : Prop := fnExactLeastGroundUptoRow.holds Try.pinned (OpenSpec.upto fnExactLeastGroundSpec)

/-- 'laws.FnRenamed', WHERE WHAT IT READS IS OF BULK AT MOST 1048576: true; the input reads as it did. -/
def fnRenamedUptoRow : OpenClaim := { program := "ytkbgglejhdodoaa", sum := "48cfd83afb51d0c2a48b6a10fe975458e9d3ca504d9c99ca634045d5fdc0d08d", func := "loop.example/g00682/laws.FnRenamed", spec := "fnRenamed", recurses := true, apart := false, narrowed := true }
def FnRenamedUptoSaid : Prop := fnRenamedUptoRow.holds Try.pinned (OpenSpec.upto fnRenamedSpec)

/-- 'laws.FnTermText', WHERE WHAT IT READS IS OF BULK AT MOST 1048576: true; the input reads as it did. -/
def fnTermTextUptoRow : OpenClaim := { program := "ytkbgglejhdodoaa", sum := "48cfd83afb51d0c2a48b6a10fe975458e9d3ca504d9c99ca634045d5fdc0d08d", func := "loop.example/g00682/laws.FnTermText", spec := "fnTermText", inPlace := ["internal/bytealg.IndexByteString"], recurses := true, apart := false, narrowed := true }
def FnTermTextUptoSaid : Prop := fnTermTextUptoRow.holds Try.pinned (OpenSpec.upto fnTermTextSpec)

/-- 'laws.FnExactRenameOf', WHERE WHAT IT READS IS OF BULK AT MOST 1048576: true; the input reads as it did. -/
def fnExactRenameOfUptoRow : OpenClaim := { program := "ytkbgglejhdodoaa", sum := "48cfd83afb51d0c2a48b6a10fe975458e9d3ca504d9c99ca634045d5fdc0d08d", func := "loop.example/g00682/laws.FnExactRenameOf", spec := "fnExactRenameOf", apart := false, narrowed := true }
def FnExactRenameOfUptoSaid : Prop := fnExactRenameOfUptoRow.holds Try.pinned (OpenSpec.upto fnExactRenameOfSpec)

/-- 'laws.FnExactSameUpTo', WHERE WHAT IT READS IS OF BULK AT MOST 1048576: true; the input reads as it did. -/
def fnExactSameUpToUptoRow : OpenClaim := { program := "ytkbgglejhdodoaa", sum := "48cfd83afb51d0c2a48b6a10fe975458e9d3ca504d9c99ca634045d5fdc0d08d", func := "loop.example/g00682/laws.FnExactSameUpTo", spec := "fnExactSameUpTo", apart := false, narrowed := true }
def FnExactSameUpToUptoSaid : Prop := fnExactSameUpToUptoRow.holds Try.pinned (OpenSpec.upto fnExactSameUpToSpec)

end Rows
end Go.Proofs.Ytkbgglejhdodoaa
