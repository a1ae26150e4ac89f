/-
  NARROWER THAN 'FOR EVERY INPUT', by the rows' own cells (each row's printed sentence says how): FnExactFactor: laid · FnMaximal: laid.
  DERIVED. THE GIVEN ROWS OF THIS SEAT. 2 by the template 'for every input the law returns true; each argument reads behind the call as it read before'; 0 by the template 'total and deterministic' (their statements: YteegjnobmbcjiaaGreatDoorTotals.lean).
  GIVEN WITH THE SEED: the statements are not yours to turn. If you find one false, say at which input.
  Laid BY PROGRAM, IN A SANDBOX (cutbox-rows.mjs): the forced cells as the released guide's own fill.sh prints them over the translation d3c44bd74980f3ce… (all of the seat's roots in one cut). By AI agents, Wed Nov 11 2026. No macro, syntax, notation, axiom, sorry.
-/
import Derived.Test.YteegjnobmbcjiaaGreatDoorChecked
import GoSem.Claim
import GoSem.ClaimJoined
import GoSem.ClaimMapViews
import Derived.JoinedTies
import Derived.KernelRfl
namespace Go.Proofs.YteegjnobmbcjiaaGreatDoor
/- THE CELL 'sum', in the pinned program and in every row, IS THE sha256 OF THE DUMP (.gsa) THAT YteegjnobmbcjiaaGreatDoorProg.lean LOADS. Nothing in Lean hashes anything: it is a label: what it is worth is what the hold of that sum in a sandbox is worth. -/
noncomputable def Tryz.pinned : Pinned := { name := "yteegjnobmbcjiaagreatdoor", sum := "d3c44bd74980f3ceee16dcfb4ca14c8237d79fafdea9d736b113a99458fcd0dc", checked := Tryz.checked }
namespace Rows
def none {H : Type} : Left H := { results := [], args := [] }

/- WHAT THE LISTED PACKAGE-LEVEL VARIABLES READ AS WHEN THE CALL BEGINS. Each datum BY PROGRAM (the guide's laid-datum.mjs) off the statement by which the dump's own 'gosem.cut.vars' lays the variable. In a bare row this is a premise. The card (YteegjnobmbcjiaaGreatDoorCards.lean) ties it to the program's text. -/
def laid_loop_example_g00682_impl_weights {H : Type} : DataW H := .agg [.lit (.int .i64 1), .lit (.int .i64 1)]

/-- 'laws.FnExactFactor': WHATEVER THE INPUT: true; the input reads as it did. -/
def fnExactFactorSpec : ChangeSpec := { name := "fnExactFactor", vars := ["loop.example/g00682/impl.weights"], fn := fun _ => fun
  | [d1, d2, d3, g1] => { results := [.lit (.bool true)], args := [d1, d2, d3], vars := [g1] }
  | _ => none }
def fnExactFactorRow : OpenClaim := { program := "yteegjnobmbcjiaagreatdoor", sum := "d3c44bd74980f3ceee16dcfb4ca14c8237d79fafdea9d736b113a99458fcd0dc", func := "loop.example/g00682/laws.FnExactFactor", spec := "fnExactFactor", unfollowed := true, recurses := true, named := ["loop.example/g00682/impl.weights"], apart := false, laid := [("loop.example/g00682/impl.weights", laid_loop_example_g00682_impl_weights)] }
def FnExactFactorSaid : Prop := fnExactFactorRow.holds Tryz.pinned (OpenSpec.ofChange fnExactFactorSpec)

/-- ITS FALSE NEIGHBOUR: 'it returns false'. Refute it at one input. -/
def fnExactFactorWrong : ChangeSpec := { name := "fnExactFactor", vars := ["loop.example/g00682/impl.weights"], fn := fun _ => fun
  | [d1, d2, d3, g1] => { results := [.lit (.bool false)], args := [d1, d2, d3], vars := [g1] }
  | _ => none }
def FnExactFactorWrongFalsely : Prop := fnExactFactorRow.holds Tryz.pinned (OpenSpec.ofChange fnExactFactorWrong)

/-- 'laws.FnMaximal': WHATEVER THE INPUT: true; the input reads as it did. -/
def fnMaximalSpec : ChangeSpec := { name := "fnMaximal", vars := ["loop.example/g00682/impl.weights"], fn := fun _ => fun
  | [d1, d2, g1] => { results := [.lit (.bool true)], args := [d1, d2], vars := [g1] }
  | _ => none }
def fnMaximalRow : OpenClaim := { program := "yteegjnobmbcjiaagreatdoor", sum := "d3c44bd74980f3ceee16dcfb4ca14c8237d79fafdea9d736b113a99458fcd0dc", func := "loop.example/g00682/laws.FnMaximal", spec := "fnMaximal", unfollowed := true, recurses := true, named := ["loop.example/g00682/impl.weights"], apart := false, laid := [("loop.example/g00682/impl.weights", laid_loop_example_g00682_impl_weights)] }
def FnMaximalSaid : Prop := fnMaximalRow.holds Tryz.pinned (OpenSpec.ofChange fnMaximalSpec)

/-- ITS FALSE NEIGHBOUR: 'it returns false'. Refute it at one input. -/
def fnMaximalWrong : ChangeSpec := { name := "fnMaximal", vars := ["loop.example/g00682/impl.weights"], fn := fun _ => fun
  | [d1, d2, g1] => { results := [.lit (.bool false)], args := [d1, d2], vars := [g1] }
  | _ => none }
def FnMaximalWrongFalsely : Prop := fnMaximalRow.holds Tryz.pinned (OpenSpec.ofChange fnMaximalWrong)

/- THE SECOND FORM. 'bulk': how many values and letters a reading holds, each counted each time it is reached (what is shared counts as often as it is met; a slice's spare places count too). A statement '..UptoSaid' is the law's where the arguments, and the package variables that the reading takes, are together of bulk at most 1048576: NARROWER than '..Said'. Prove '..Said' where nothing that the law and all that it calls make is longer than what came in: it says more and counts as full. Else prove '..UptoSaid'. A law counts once. -/
mutual
def uptoBulk {H : Type} : DataW H → Nat
  | .lit (.string bytes) => bytes.length + 1
  | .lit _ => 1
  | .nil => 1
  | .ptr d => uptoBulk d + 1
  | .slice elems spare => uptoBulkAll elems + uptoBulkAll spare + 1
  | .agg parts => uptoBulkAll parts + 1
  | .iface _ d => uptoBulk d + 1
  | .map entries => uptoBulkEntries entries + 1
  | .held _ => 1
def uptoBulkAll {H : Type} : List (DataW H) → Nat
  | [] => 0
  | d :: r => uptoBulk d + uptoBulkAll r
def uptoBulkEntries {H : Type} : List (Lit × DataW H) → Nat
  | [] => 0
  | x :: r => uptoBulkEntry x + uptoBulkEntries r
def uptoBulkEntry {H : Type} : Lit × DataW H → Nat
  | (.string bytes, d) => bytes.length + uptoBulk d + 1
  | (_, d) => uptoBulk d + 1
 end
def uptoSmall : (H : Type) → List (DataW H) → Bool := fun _ ds => decide (uptoBulkAll ds ≤ 1048576)
def OpenSpec.upto (s : _root_.Go.ChangeSpec) : _root_.Go.OpenSpec := { _root_.Go.OpenSpec.ofChange s with cond := some uptoSmall }

/-- 'laws.FnExactFactor', WHERE WHAT IT READS IS OF BULK AT MOST 1048576: true; the input reads as it did. -/
def fnExactFactorUptoRow : OpenClaim := { program := "yteegjnobmbcjiaagreatdoor", sum := "d3c44bd74980f3ceee16dcfb4ca14c8237d79fafdea9d736b113a99458fcd0dc", func := "loop.example/g00682/laws.FnExactFactor", spec := "fnExactFactor", unfollowed := true, recurses := true, named := ["loop.example/g00682/impl.weights"], apart := false, laid := [("loop.example/g00682/impl.weights", laid_loop_example_g00682_impl_weights)], narrowed := true }
def FnExactFactorUptoSaid : Prop := fnExactFactorUptoRow.holds Tryz.pinned (OpenSpec.upto fnExactFactorSpec)

/-- 'laws.FnMaximal', WHERE WHAT IT READS IS OF BULK AT MOST 1048576: true; the input reads as it did. -/
def fnMaximalUptoRow : OpenClaim := { program := "yteegjnobmbcjiaagreatdoor", sum := "d3c44bd74980f3ceee16dcfb4ca14c8237d79fafdea9d736b113a99458fcd0dc", func := "loop.example/g00682/laws.FnMaximal", spec := "fnMaximal", unfollowed := true, recurses := true, named := ["loop.example/g00682/impl.weights"], apart := false, laid := [("loop.example/g00682/impl.weights", laid_loop_example_g00682_impl_weights)], narrowed := true }
def FnMaximalUptoSaid : Prop := fnMaximalUptoRow.holds Tryz.pinned (OpenSpec.upto fnMaximalSpec)

end Rows
end Go.Proofs.YteegjnobmbcjiaaGreatDoor
