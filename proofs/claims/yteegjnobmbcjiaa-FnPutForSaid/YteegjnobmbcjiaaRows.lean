/-
  No cell of these rows narrows 'for every input' (looked for: loops, veiled, ifaces, maps, wideKeys, modest, calm, conditions, laid).
  DERIVED. THE GIVEN ROWS OF THIS SEAT. 4 by the template 'for every input the law returns true; each argument reads behind the call as it read before'; 0 by the template 'total and deterministic' (their statements: YteegjnobmbcjiaaTotals.lean).
  GIVEN WITH THE SEED: the statements are not yours to turn. If you find one false, say at which input.
  Laid BY PROGRAM, IN A SANDBOX (cutbox-rows.mjs): the forced cells as the released guide's own fill.sh prints them over the translation 8924d4dac6b8b892… (all of the seat's roots in one cut). By AI agents, Wed Nov 11 2026. No macro, syntax, notation, axiom, sorry.
-/
import Derived.Test.YteegjnobmbcjiaaChecked
import GoSem.Claim
import GoSem.ClaimJoined
import GoSem.ClaimMapViews
import Derived.JoinedTies
import Derived.KernelRfl
namespace Go.Proofs.Yteegjnobmbcjiaa
/- THE CELL 'sum', in the pinned program and in every row, IS THE sha256 OF THE DUMP (.gsa) THAT YteegjnobmbcjiaaProg.lean LOADS. Nothing in Lean hashes anything: it is a label: what it is worth is what the hold of that sum in a sandbox is worth. -/
noncomputable def Try.pinned : Pinned := { name := "yteegjnobmbcjiaa", sum := "8924d4dac6b8b892ff6e7a82f9a2098bcc4cf539d204f24512bc558b563f1c35", checked := Try.checked }
namespace Rows
def none {H : Type} : Left H := { results := [], args := [] }

/-- 'laws.FnExactUnitsOf': WHATEVER THE INPUT: true; the input reads as it did. -/
def fnExactUnitsOfSpec : ChangeSpec := { name := "fnExactUnitsOf", fn := fun _ => fun
  | [d1, d2, d3] => { results := [.lit (.bool true)], args := [d1, d2, d3] }
  | _ => none }
def fnExactUnitsOfRow : OpenClaim := { program := "yteegjnobmbcjiaa", sum := "8924d4dac6b8b892ff6e7a82f9a2098bcc4cf539d204f24512bc558b563f1c35", func := "loop.example/g00682/laws.FnExactUnitsOf", spec := "fnExactUnitsOf", apart := false }
def FnExactUnitsOfSaid : Prop := fnExactUnitsOfRow.holds Try.pinned (OpenSpec.ofChange fnExactUnitsOfSpec)

/-- ITS FALSE NEIGHBOUR: 'it returns false'. Refute it at one input. -/
def fnExactUnitsOfWrong : ChangeSpec := { name := "fnExactUnitsOf", fn := fun _ => fun
  | [d1, d2, d3] => { results := [.lit (.bool false)], args := [d1, d2, d3] }
  | _ => none }
def FnExactUnitsOfWrongFalsely : Prop := fnExactUnitsOfRow.holds Try.pinned (OpenSpec.ofChange fnExactUnitsOfWrong)

/-- 'laws.FnExactChooseOf': WHATEVER THE INPUT: true; the input reads as it did. -/
def fnExactChooseOfSpec : ChangeSpec := { name := "fnExactChooseOf", fn := fun _ => fun
  | [d1, d2, d3, d4] => { results := [.lit (.bool true)], args := [d1, d2, d3, d4] }
  | _ => none }
def fnExactChooseOfRow : OpenClaim := { program := "yteegjnobmbcjiaa", sum := "8924d4dac6b8b892ff6e7a82f9a2098bcc4cf539d204f24512bc558b563f1c35", func := "loop.example/g00682/laws.FnExactChooseOf", spec := "fnExactChooseOf", unfollowed := true, recurses := true, apart := false }
def FnExactChooseOfSaid : Prop := fnExactChooseOfRow.holds Try.pinned (OpenSpec.ofChange fnExactChooseOfSpec)

/-- ITS FALSE NEIGHBOUR: 'it returns false'. Refute it at one input. -/
def fnExactChooseOfWrong : ChangeSpec := { name := "fnExactChooseOf", fn := fun _ => fun
  | [d1, d2, d3, d4] => { results := [.lit (.bool false)], args := [d1, d2, d3, d4] }
  | _ => none }
def FnExactChooseOfWrongFalsely : Prop := fnExactChooseOfRow.holds Try.pinned (OpenSpec.ofChange fnExactChooseOfWrong)

/-- 'laws.FnTidied': WHATEVER THE INPUT: true; the input reads as it did. -/
def fnTidiedSpec : ChangeSpec := { name := "fnTidied", fn := fun _ => fun
  | [d1, d2] => { results := [.lit (.bool true)], args := [d1, d2] }
  | _ => none }
def fnTidiedRow : OpenClaim := { program := "yteegjnobmbcjiaa", sum := "8924d4dac6b8b892ff6e7a82f9a2098bcc4cf539d204f24512bc558b563f1c35", func := "loop.example/g00682/laws.FnTidied", spec := "fnTidied", unfollowed := true, recurses := true, apart := false }
def FnTidiedSaid : Prop := fnTidiedRow.holds Try.pinned (OpenSpec.ofChange fnTidiedSpec)

/-- ITS FALSE NEIGHBOUR: 'it returns false'. Refute it at one input. -/
def fnTidiedWrong : ChangeSpec := { name := "fnTidied", fn := fun _ => fun
  | [d1, d2] => { results := [.lit (.bool false)], args := [d1, d2] }
  | _ => none }
def FnTidiedWrongFalsely : Prop := fnTidiedRow.holds Try.pinned (OpenSpec.ofChange fnTidiedWrong)

/-- 'laws.FnPutFor': WHATEVER THE INPUT: true; the input reads as it did. -/
def fnPutForSpec : ChangeSpec := { name := "fnPutFor", fn := fun _ => fun
  | [d1, d2] => { results := [.lit (.bool true)], args := [d1, d2] }
  | _ => none }
def fnPutForRow : OpenClaim := { program := "yteegjnobmbcjiaa", sum := "8924d4dac6b8b892ff6e7a82f9a2098bcc4cf539d204f24512bc558b563f1c35", func := "loop.example/g00682/laws.FnPutFor", spec := "fnPutFor", recurses := true, apart := false }
def FnPutForSaid : Prop := fnPutForRow.holds Try.pinned (OpenSpec.ofChange fnPutForSpec)

/-- ITS FALSE NEIGHBOUR: 'it returns false'. Refute it at one input. -/
def fnPutForWrong : ChangeSpec := { name := "fnPutFor", fn := fun _ => fun
  | [d1, d2] => { results := [.lit (.bool false)], args := [d1, d2] }
  | _ => none }
def FnPutForWrongFalsely : Prop := fnPutForRow.holds Try.pinned (OpenSpec.ofChange fnPutForWrong)

/- THE SECOND FORM. 'bulk': how many values and letters a reading holds, each counted each time it is reached (what is shared counts as often as it is met; a slice's spare places count too). A statement '..UptoSaid' is the law's where the arguments, and the package variables that the reading takes, are together of bulk at most 1048576: NARROWER than '..Said'. Prove '..Said' where nothing that the law and all that it calls make is longer than what came in: it says more and counts as full. Else prove '..UptoSaid'. A law counts once. -/
mutual
def uptoBulk {H : Type} : DataW H → Nat
  | .lit (.string bytes) => bytes.length + 1
  | .lit _ => 1
  | .nil => 1
  | .ptr d => uptoBulk d + 1
  | .slice elems spare => uptoBulkAll elems + uptoBulkAll spare + 1
  | .agg parts => uptoBulkAll parts + 1
  | .iface _ d => uptoBulk d + 1
  | .map entries => uptoBulkEntries entries + 1
  | .held _ => 1
def uptoBulkAll {H : Type} : List (DataW H) → Nat
  | [] => 0
  | d :: r => uptoBulk d + uptoBulkAll r
def uptoBulkEntries {H : Type} : List (Lit × DataW H) → Nat
  | [] => 0
  | x :: r => uptoBulkEntry x + uptoBulkEntries r
def uptoBulkEntry {H : Type} : Lit × DataW H → Nat
  | (.string bytes, d) => bytes.length + uptoBulk d + 1
  | (_, d) => uptoBulk d + 1
 end
def uptoSmall : (H : Type) → List (DataW H) → Bool := fun _ ds => decide (uptoBulkAll ds ≤ 1048576)
def OpenSpec.upto (s : _root_.Go.ChangeSpec) : _root_.Go.OpenSpec := { _root_.Go.OpenSpec.ofChange s with cond := some uptoSmall }

/-- 'laws.FnExactUnitsOf', WHERE WHAT IT READS IS OF BULK AT MOST 1048576: true; the input reads as it did. -/
def fnExactUnitsOfUptoRow : OpenClaim := { program := "yteegjnobmbcjiaa", sum := "8924d4dac6b8b892ff6e7a82f9a2098bcc4cf539d204f24512bc558b563f1c35", func := "loop.example/g00682/laws.FnExactUnitsOf", spec := "fnExactUnitsOf", apart := false, narrowed := true }
def FnExactUnitsOfUptoSaid : Prop := fnExactUnitsOfUptoRow.holds Try.pinned (OpenSpec.upto fnExactUnitsOfSpec)

/-- 'laws.FnExactChooseOf', WHERE WHAT IT READS IS OF BULK AT MOST 1048576: true; the input reads as it did. -/
def fnExactChooseOfUptoRow : OpenClaim := { program := "yteegjnobmbcjiaa", sum := "8924d4dac6b8b892ff6e7a82f9a2098bcc4cf539d204f24512bc558b563f1c35", func := "loop.example/g00682/laws.FnExactChooseOf", spec := "fnExactChooseOf", unfollowed := true, recurses := true, apart := false, narrowed := true }
def FnExactChooseOfUptoSaid : Prop := fnExactChooseOfUptoRow.holds Try.pinned (OpenSpec.upto fnExactChooseOfSpec)

/-- 'laws.FnTidied', WHERE WHAT IT READS IS OF BULK AT MOST 1048576: true; the input reads as it did. -/
def fnTidiedUptoRow : OpenClaim := { program := "yteegjnobmbcjiaa", sum := "8924d4dac6b8b892ff6e7a82f9a2098bcc4cf539d204f24512bc558b563f1c35", func := "loop.example/g00682/laws.FnTidied", spec := "fnTidied", unfollowed := true, recurses := true, apart := false, narrowed := true }
def FnTidiedUptoSaid : Prop := fnTidiedUptoRow.holds Try.pinned (OpenSpec.upto fnTidiedSpec)

/-- 'laws.FnPutFor', WHERE WHAT IT READS IS OF BULK AT MOST 1048576: true; the input reads as it did. -/
def fnPutForUptoRow : OpenClaim := { program := "yteegjnobmbcjiaa", sum := "8924d4dac6b8b892ff6e7a82f9a2098bcc4cf539d204f24512bc558b563f1c35", func := "loop.example/g00682/laws.FnPutFor", spec := "fnPutFor", recurses := true, apart := false, narrowed := true }
def FnPutForUptoSaid : Prop := fnPutForUptoRow.holds Try.pinned (OpenSpec.upto fnPutForSpec)

end Rows
end Go.Proofs.Yteegjnobmbcjiaa
