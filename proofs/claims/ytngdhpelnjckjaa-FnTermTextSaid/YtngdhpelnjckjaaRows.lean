/-
  No cell of these rows narrows 'for every input' (looked for: loops, veiled, ifaces, maps, wideKeys, modest, calm, conditions, laid).
  DERIVED. THE GIVEN ROWS OF THIS SEAT. 13 by the template 'for every input the law returns true; each argument reads behind the call as it read before'; 0 by the template 'total and deterministic' (their statements: YtngdhpelnjckjaaTotals.lean).
  GIVEN WITH THE SEED: the statements are not yours to turn. If you find one false, say at which input.
  Laid BY PROGRAM, IN A SANDBOX (cutbox-rows.mjs): the forced cells as the released guide's own fill.sh prints them over the translation 86e03ac8059985dc… (all of the seat's roots in one cut). By AI agents, Wed Nov 11 2026. No macro, syntax, notation, axiom, sorry.
-/
import Derived.Test.YtngdhpelnjckjaaChecked
import GoSem.Claim
import GoSem.ClaimJoined
import GoSem.ClaimMapViews
import Derived.JoinedTies
import Derived.KernelRfl
namespace Go.Proofs.Ytngdhpelnjckjaa
/- THE CELL 'sum', in the pinned program and in every row, IS THE sha256 OF THE DUMP (.gsa) THAT YtngdhpelnjckjaaProg.lean LOADS. Nothing in Lean hashes anything: it is a label: what it is worth is what the hold of that sum in a sandbox is worth. -/
noncomputable def Try.pinned : Pinned := { name := "ytngdhpelnjckjaa", sum := "86e03ac8059985dc4ff4fd06cd1f39b78617cd1e2f8db93644880e270b7a20f2", checked := Try.checked }
namespace Rows
def none {H : Type} : Left H := { results := [], args := [] }

/-- 'laws.FnReplaced': WHATEVER THE INPUT: true; the input reads as it did. -/
def fnReplacedSpec : ChangeSpec := { name := "fnReplaced", fn := fun _ => fun
  | [d1, d2] => { results := [.lit (.bool true)], args := [d1, d2] }
  | _ => none }
def fnReplacedRow : OpenClaim := { program := "ytngdhpelnjckjaa", sum := "86e03ac8059985dc4ff4fd06cd1f39b78617cd1e2f8db93644880e270b7a20f2", func := "loop.example/g00682/laws.FnReplaced", spec := "fnReplaced", recurses := true, apart := false }
def FnReplacedSaid : Prop := fnReplacedRow.holds Try.pinned (OpenSpec.ofChange fnReplacedSpec)

/-- ITS FALSE NEIGHBOUR: 'it returns false'. Refute it at one input. -/
def fnReplacedWrong : ChangeSpec := { name := "fnReplaced", fn := fun _ => fun
  | [d1, d2] => { results := [.lit (.bool false)], args := [d1, d2] }
  | _ => none }
def FnReplacedWrongFalsely : Prop := fnReplacedRow.holds Try.pinned (OpenSpec.ofChange fnReplacedWrong)

/-- 'laws.FnTermText': WHATEVER THE INPUT: true; the input reads as it did. -/
def fnTermTextSpec : ChangeSpec := { name := "fnTermText", fn := fun _ => fun
  | [d1, d2] => { results := [.lit (.bool true)], args := [d1, d2] }
  | _ => none }
def fnTermTextRow : OpenClaim := { program := "ytngdhpelnjckjaa", sum := "86e03ac8059985dc4ff4fd06cd1f39b78617cd1e2f8db93644880e270b7a20f2", func := "loop.example/g00682/laws.FnTermText", spec := "fnTermText", inPlace := ["internal/bytealg.IndexByteString"], recurses := true, apart := false }
def FnTermTextSaid : Prop := fnTermTextRow.holds Try.pinned (OpenSpec.ofChange fnTermTextSpec)

/-- ITS FALSE NEIGHBOUR: 'it returns false'. Refute it at one input. -/
def fnTermTextWrong : ChangeSpec := { name := "fnTermText", fn := fun _ => fun
  | [d1, d2] => { results := [.lit (.bool false)], args := [d1, d2] }
  | _ => none }
def FnTermTextWrongFalsely : Prop := fnTermTextRow.holds Try.pinned (OpenSpec.ofChange fnTermTextWrong)

/-- 'laws.FnUnified': WHATEVER THE INPUT: true; the input reads as it did. -/
def fnUnifiedSpec : ChangeSpec := { name := "fnUnified", fn := fun _ => fun
  | [d1, d2] => { results := [.lit (.bool true)], args := [d1, d2] }
  | _ => none }
def fnUnifiedRow : OpenClaim := { program := "ytngdhpelnjckjaa", sum := "86e03ac8059985dc4ff4fd06cd1f39b78617cd1e2f8db93644880e270b7a20f2", func := "loop.example/g00682/laws.FnUnified", spec := "fnUnified", recurses := true, apart := false }
def FnUnifiedSaid : Prop := fnUnifiedRow.holds Try.pinned (OpenSpec.ofChange fnUnifiedSpec)

/-- ITS FALSE NEIGHBOUR: 'it returns false'. Refute it at one input. -/
def fnUnifiedWrong : ChangeSpec := { name := "fnUnified", fn := fun _ => fun
  | [d1, d2] => { results := [.lit (.bool false)], args := [d1, d2] }
  | _ => none }
def FnUnifiedWrongFalsely : Prop := fnUnifiedRow.holds Try.pinned (OpenSpec.ofChange fnUnifiedWrong)

/-- 'laws.FnMatched': WHATEVER THE INPUT: true; the input reads as it did. -/
def fnMatchedSpec : ChangeSpec := { name := "fnMatched", fn := fun _ => fun
  | [d1, d2] => { results := [.lit (.bool true)], args := [d1, d2] }
  | _ => none }
def fnMatchedRow : OpenClaim := { program := "ytngdhpelnjckjaa", sum := "86e03ac8059985dc4ff4fd06cd1f39b78617cd1e2f8db93644880e270b7a20f2", func := "loop.example/g00682/laws.FnMatched", spec := "fnMatched", recurses := true, apart := false }
def FnMatchedSaid : Prop := fnMatchedRow.holds Try.pinned (OpenSpec.ofChange fnMatchedSpec)

/-- ITS FALSE NEIGHBOUR: 'it returns false'. Refute it at one input. -/
def fnMatchedWrong : ChangeSpec := { name := "fnMatched", fn := fun _ => fun
  | [d1, d2] => { results := [.lit (.bool false)], args := [d1, d2] }
  | _ => none }
def FnMatchedWrongFalsely : Prop := fnMatchedRow.holds Try.pinned (OpenSpec.ofChange fnMatchedWrong)

/-- 'laws.FnRenamed': WHATEVER THE INPUT: true; the input reads as it did. -/
def fnRenamedSpec : ChangeSpec := { name := "fnRenamed", fn := fun _ => fun
  | [d1, d2] => { results := [.lit (.bool true)], args := [d1, d2] }
  | _ => none }
def fnRenamedRow : OpenClaim := { program := "ytngdhpelnjckjaa", sum := "86e03ac8059985dc4ff4fd06cd1f39b78617cd1e2f8db93644880e270b7a20f2", func := "loop.example/g00682/laws.FnRenamed", spec := "fnRenamed", recurses := true, apart := false }
def FnRenamedSaid : Prop := fnRenamedRow.holds Try.pinned (OpenSpec.ofChange fnRenamedSpec)

/-- ITS FALSE NEIGHBOUR: 'it returns false'. Refute it at one input. -/
def fnRenamedWrong : ChangeSpec := { name := "fnRenamed", fn := fun _ => fun
  | [d1, d2] => { results := [.lit (.bool false)], args := [d1, d2] }
  | _ => none }
def FnRenamedWrongFalsely : Prop := fnRenamedRow.holds Try.pinned (OpenSpec.ofChange fnRenamedWrong)

/-- 'laws.FnExactGoodSubst': WHATEVER THE INPUT: true; the input reads as it did. -/
def fnExactGoodSubstSpec : ChangeSpec := { name := "fnExactGoodSubst", fn := fun _ => fun
  | [d1, d2] => { results := [.lit (.bool true)], args := [d1, d2] }
  | _ => none }
def fnExactGoodSubstRow : OpenClaim := { program := "ytngdhpelnjckjaa", sum := "86e03ac8059985dc4ff4fd06cd1f39b78617cd1e2f8db93644880e270b7a20f2", func := "loop.example/g00682/laws.FnExactGoodSubst", spec := "fnExactGoodSubst", apart := false }
def FnExactGoodSubstSaid : Prop := fnExactGoodSubstRow.holds Try.pinned (OpenSpec.ofChange fnExactGoodSubstSpec)

/-- ITS FALSE NEIGHBOUR: 'it returns false'. Refute it at one input. -/
def fnExactGoodSubstWrong : ChangeSpec := { name := "fnExactGoodSubst", fn := fun _ => fun
  | [d1, d2] => { results := [.lit (.bool false)], args := [d1, d2] }
  | _ => none }
def FnExactGoodSubstWrongFalsely : Prop := fnExactGoodSubstRow.holds Try.pinned (OpenSpec.ofChange fnExactGoodSubstWrong)

/-- 'laws.FnExactApply': WHATEVER THE INPUT: true; the input reads as it did. -/
def fnExactApplySpec : ChangeSpec := { name := "fnExactApply", fn := fun _ => fun
  | [d1, d2, d3] => { results := [.lit (.bool true)], args := [d1, d2, d3] }
  | _ => none }
def fnExactApplyRow : OpenClaim := { program := "ytngdhpelnjckjaa", sum := "86e03ac8059985dc4ff4fd06cd1f39b78617cd1e2f8db93644880e270b7a20f2", func := "loop.example/g00682/laws.FnExactApply", spec := "fnExactApply", apart := false }
def FnExactApplySaid : Prop := fnExactApplyRow.holds Try.pinned (OpenSpec.ofChange fnExactApplySpec)

/-- ITS FALSE NEIGHBOUR: 'it returns false'. Refute it at one input. -/
def fnExactApplyWrong : ChangeSpec := { name := "fnExactApply", fn := fun _ => fun
  | [d1, d2, d3] => { results := [.lit (.bool false)], args := [d1, d2, d3] }
  | _ => none }
def FnExactApplyWrongFalsely : Prop := fnExactApplyRow.holds Try.pinned (OpenSpec.ofChange fnExactApplyWrong)

/-- 'laws.FnExactCompose': WHATEVER THE INPUT: true; the input reads as it did. -/
def fnExactComposeSpec : ChangeSpec := { name := "fnExactCompose", fn := fun _ => fun
  | [d1, d2, d3] => { results := [.lit (.bool true)], args := [d1, d2, d3] }
  | _ => none }
def fnExactComposeRow : OpenClaim := { program := "ytngdhpelnjckjaa", sum := "86e03ac8059985dc4ff4fd06cd1f39b78617cd1e2f8db93644880e270b7a20f2", func := "loop.example/g00682/laws.FnExactCompose", spec := "fnExactCompose", recurses := true, apart := false }
def FnExactComposeSaid : Prop := fnExactComposeRow.holds Try.pinned (OpenSpec.ofChange fnExactComposeSpec)

/-- ITS FALSE NEIGHBOUR: 'it returns false'. Refute it at one input. -/
def fnExactComposeWrong : ChangeSpec := { name := "fnExactCompose", fn := fun _ => fun
  | [d1, d2, d3] => { results := [.lit (.bool false)], args := [d1, d2, d3] }
  | _ => none }
def FnExactComposeWrongFalsely : Prop := fnExactComposeRow.holds Try.pinned (OpenSpec.ofChange fnExactComposeWrong)

/-- 'laws.FnExactMatch': WHATEVER THE INPUT: true; the input reads as it did. -/
def fnExactMatchSpec : ChangeSpec := { name := "fnExactMatch", fn := fun _ => fun
  | [d1, d2, d3] => { results := [.lit (.bool true)], args := [d1, d2, d3] }
  | _ => none }
def fnExactMatchRow : OpenClaim := { program := "ytngdhpelnjckjaa", sum := "86e03ac8059985dc4ff4fd06cd1f39b78617cd1e2f8db93644880e270b7a20f2", func := "loop.example/g00682/laws.FnExactMatch", spec := "fnExactMatch", recurses := true, apart := false }
def FnExactMatchSaid : Prop := fnExactMatchRow.holds Try.pinned (OpenSpec.ofChange fnExactMatchSpec)

/-- ITS FALSE NEIGHBOUR: 'it returns false'. Refute it at one input. -/
def fnExactMatchWrong : ChangeSpec := { name := "fnExactMatch", fn := fun _ => fun
  | [d1, d2, d3] => { results := [.lit (.bool false)], args := [d1, d2, d3] }
  | _ => none }
def FnExactMatchWrongFalsely : Prop := fnExactMatchRow.holds Try.pinned (OpenSpec.ofChange fnExactMatchWrong)

/-- 'laws.FnExactUnify': WHATEVER THE INPUT: true; the input reads as it did. -/
def fnExactUnifySpec : ChangeSpec := { name := "fnExactUnify", fn := fun _ => fun
  | [d1, d2, d3] => { results := [.lit (.bool true)], args := [d1, d2, d3] }
  | _ => none }
def fnExactUnifyRow : OpenClaim := { program := "ytngdhpelnjckjaa", sum := "86e03ac8059985dc4ff4fd06cd1f39b78617cd1e2f8db93644880e270b7a20f2", func := "loop.example/g00682/laws.FnExactUnify", spec := "fnExactUnify", recurses := true, apart := false }
def FnExactUnifySaid : Prop := fnExactUnifyRow.holds Try.pinned (OpenSpec.ofChange fnExactUnifySpec)

/-- ITS FALSE NEIGHBOUR: 'it returns false'. Refute it at one input. -/
def fnExactUnifyWrong : ChangeSpec := { name := "fnExactUnify", fn := fun _ => fun
  | [d1, d2, d3] => { results := [.lit (.bool false)], args := [d1, d2, d3] }
  | _ => none }
def FnExactUnifyWrongFalsely : Prop := fnExactUnifyRow.holds Try.pinned (OpenSpec.ofChange fnExactUnifyWrong)

/-- 'laws.FnExactRenameOf': WHATEVER THE INPUT: true; the input reads as it did. -/
def fnExactRenameOfSpec : ChangeSpec := { name := "fnExactRenameOf", fn := fun _ => fun
  | [d1, d2] => { results := [.lit (.bool true)], args := [d1, d2] }
  | _ => none }
def fnExactRenameOfRow : OpenClaim := { program := "ytngdhpelnjckjaa", sum := "86e03ac8059985dc4ff4fd06cd1f39b78617cd1e2f8db93644880e270b7a20f2", func := "loop.example/g00682/laws.FnExactRenameOf", spec := "fnExactRenameOf", apart := false }
def FnExactRenameOfSaid : Prop := fnExactRenameOfRow.holds Try.pinned (OpenSpec.ofChange fnExactRenameOfSpec)

/-- ITS FALSE NEIGHBOUR: 'it returns false'. Refute it at one input. -/
def fnExactRenameOfWrong : ChangeSpec := { name := "fnExactRenameOf", fn := fun _ => fun
  | [d1, d2] => { results := [.lit (.bool false)], args := [d1, d2] }
  | _ => none }
def FnExactRenameOfWrongFalsely : Prop := fnExactRenameOfRow.holds Try.pinned (OpenSpec.ofChange fnExactRenameOfWrong)

/-- 'laws.FnExactSameUpTo': WHATEVER THE INPUT: true; the input reads as it did. -/
def fnExactSameUpToSpec : ChangeSpec := { name := "fnExactSameUpTo", fn := fun _ => fun
  | [d1, d2, d3] => { results := [.lit (.bool true)], args := [d1, d2, d3] }
  | _ => none }
def fnExactSameUpToRow : OpenClaim := { program := "ytngdhpelnjckjaa", sum := "86e03ac8059985dc4ff4fd06cd1f39b78617cd1e2f8db93644880e270b7a20f2", func := "loop.example/g00682/laws.FnExactSameUpTo", spec := "fnExactSameUpTo", apart := false }
def FnExactSameUpToSaid : Prop := fnExactSameUpToRow.holds Try.pinned (OpenSpec.ofChange fnExactSameUpToSpec)

/-- ITS FALSE NEIGHBOUR: 'it returns false'. Refute it at one input. -/
def fnExactSameUpToWrong : ChangeSpec := { name := "fnExactSameUpTo", fn := fun _ => fun
  | [d1, d2, d3] => { results := [.lit (.bool false)], args := [d1, d2, d3] }
  | _ => none }
def FnExactSameUpToWrongFalsely : Prop := fnExactSameUpToRow.holds Try.pinned (OpenSpec.ofChange fnExactSameUpToWrong)

/-- 'laws.FnExactIsUnifier': WHATEVER THE INPUT: true; the input reads as it did. -/
def fnExactIsUnifierSpec : ChangeSpec := { name := "fnExactIsUnifier", fn := fun _ => fun
  | [d1, d2, d3, d4] => { results := [.lit (.bool true)], args := [d1, d2, d3, d4] }
  | _ => none }
def fnExactIsUnifierRow : OpenClaim := { program := "ytngdhpelnjckjaa", sum := "86e03ac8059985dc4ff4fd06cd1f39b78617cd1e2f8db93644880e270b7a20f2", func := "loop.example/g00682/laws.FnExactIsUnifier", spec := "fnExactIsUnifier", apart := false }
def FnExactIsUnifierSaid : Prop := fnExactIsUnifierRow.holds Try.pinned (OpenSpec.ofChange fnExactIsUnifierSpec)

/-- ITS FALSE NEIGHBOUR: 'it returns false'. Refute it at one input. -/
def fnExactIsUnifierWrong : ChangeSpec := { name := "fnExactIsUnifier", fn := fun _ => fun
  | [d1, d2, d3, d4] => { results := [.lit (.bool false)], args := [d1, d2, d3, d4] }
  | _ => none }
def FnExactIsUnifierWrongFalsely : Prop := fnExactIsUnifierRow.holds Try.pinned (OpenSpec.ofChange fnExactIsUnifierWrong)

/- THE SECOND FORM. 'bulk': how many values and letters a reading holds, each counted each time it is reached (what is shared counts as often as it is met; a slice's spare places count too). A statement '..UptoSaid' is the law's where the arguments, and the package variables that the reading takes, are together of bulk at most 1048576: NARROWER than '..Said'. Prove '..Said' where nothing that the law and all that it calls make is longer than what came in: it says more and counts as full. Else prove '..UptoSaid'. A law counts once. -/
mutual
def uptoBulk {H : Type} : DataW H → Nat
  | .lit (.string bytes) => bytes.length + 1
  | .lit _ => 1
  | .nil => 1
  | .ptr d => uptoBulk d + 1
  | .slice elems spare => uptoBulkAll elems + uptoBulkAll spare + 1
  | .agg parts => uptoBulkAll parts + 1
  | .iface _ d => uptoBulk d + 1
  | .map entries => uptoBulkEntries entries + 1
  | .held _ => 1
def uptoBulkAll {H : Type} : List (DataW H) → Nat
  | [] => 0
  | d :: r => uptoBulk d + uptoBulkAll r
def uptoBulkEntries {H : Type} : List (Lit × DataW H) → Nat
  | [] => 0
  | x :: r => uptoBulkEntry x + uptoBulkEntries r
def uptoBulkEntry {H : Type} : Lit × DataW H → Nat
  | (.string bytes, d) => bytes.length + uptoBulk d + 1
  | (_, d) => uptoBulk d + 1
 end
def uptoSmall : (H : Type) → List (DataW H) → Bool := fun _ ds => decide (uptoBulkAll ds ≤ 1048576)
def OpenSpec.upto (s : _root_.Go.ChangeSpec) : _root_.Go.OpenSpec := { _root_.Go.OpenSpec.ofChange s with cond := some uptoSmall }

/-- 'laws.FnReplaced', WHERE WHAT IT READS IS OF BULK AT MOST 1048576: true; the input reads as it did. -/
def fnReplacedUptoRow : OpenClaim := { program := "ytngdhpelnjckjaa", sum := "86e03ac8059985dc4ff4fd06cd1f39b78617cd1e2f8db93644880e270b7a20f2", func := "loop.example/g00682/laws.FnReplaced", spec := "fnReplaced", recurses := true, apart := false, narrowed := true }
def FnReplacedUptoSaid : Prop := fnReplacedUptoRow.holds Try.pinned (OpenSpec.upto fnReplacedSpec)

/-- 'laws.FnTermText', WHERE WHAT IT READS IS OF BULK AT MOST 1048576: true; the input reads as it did. -/
def fnTermTextUptoRow : OpenClaim := { program := "ytngdhpelnjckjaa", sum := "86e03ac8059985dc4ff4fd06cd1f39b78617cd1e2f8db93644880e270b7a20f2", func := "loop.example/g00682/laws.FnTermText", spec := "fnTermText", inPlace := ["internal/bytealg.IndexByteString"], recurses := true, apart := false, narrowed := true }
def FnTermTextUptoSaid : Prop := fnTermTextUptoRow.holds Try.pinned (OpenSpec.upto fnTermTextSpec)

/-- 'laws.FnUnified', WHERE WHAT IT READS IS OF BULK AT MOST 1048576: true; the input reads as it did. -/
def fnUnifiedUptoRow : OpenClaim := { program := "ytngdhpelnjckjaa", sum := "86e03ac8059985dc4ff4fd06cd1f39b78617cd1e2f8db93644880e270b7a20f2", func := "loop.example/g00682/laws.FnUnified", spec := "fnUnified", recurses := true, apart := false, narrowed := true }
def FnUnifiedUptoSaid : Prop := fnUnifiedUptoRow.holds Try.pinned (OpenSpec.upto fnUnifiedSpec)

/-- 'laws.FnMatched', WHERE WHAT IT READS IS OF BULK AT MOST 1048576: true; the input reads as it did. -/
def fnMatchedUptoRow : OpenClaim := { program := "ytngdhpelnjckjaa", sum := "86e03ac8059985dc4ff4fd06cd1f39b78617cd1e2f8db93644880e270b7a20f2", func := "loop.example/g00682/laws.FnMatched", spec := "fnMatched", recurses := true, apart := false, narrowed := true }
def FnMatchedUptoSaid : Prop := fnMatchedUptoRow.holds Try.pinned (OpenSpec.upto fnMatchedSpec)

/-- 'laws.FnRenamed', WHERE WHAT IT READS IS OF BULK AT MOST 1048576: true; the input reads as it did. -/
def fnRenamedUptoRow : OpenClaim := { program := "ytngdhpelnjckjaa", sum := "86e03ac8059985dc4ff4fd06cd1f39b78617cd1e2f8db93644880e270b7a20f2", func := "loop.example/g00682/laws.FnRenamed", spec := "fnRenamed", recurses := true, apart := false, narrowed := true }
def FnRenamedUptoSaid : Prop := fnRenamedUptoRow.holds Try.pinned (OpenSpec.upto fnRenamedSpec)

/-- 'laws.FnExactGoodSubst', WHERE WHAT IT READS IS OF BULK AT MOST 1048576: true; the input reads as it did. -/
def fnExactGoodSubstUptoRow : OpenClaim := { program := "ytngdhpelnjckjaa", sum := "86e03ac8059985dc4ff4fd06cd1f39b78617cd1e2f8db93644880e270b7a20f2", func := "loop.example/g00682/laws.FnExactGoodSubst", spec := "fnExactGoodSubst", apart := false, narrowed := true }
def FnExactGoodSubstUptoSaid : Prop := fnExactGoodSubstUptoRow.holds Try.pinned (OpenSpec.upto fnExactGoodSubstSpec)

/-- 'laws.FnExactApply', WHERE WHAT IT READS IS OF BULK AT MOST 1048576: true; the input reads as it did. -/
def fnExactApplyUptoRow : OpenClaim := { program := "ytngdhpelnjckjaa", sum := "86e03ac8059985dc4ff4fd06cd1f39b78617cd1e2f8db93644880e270b7a20f2", func := "loop.example/g00682/laws.FnExactApply", spec := "fnExactApply", apart := false, narrowed := true }
def FnExactApplyUptoSaid : Prop := fnExactApplyUptoRow.holds Try.pinned (OpenSpec.upto fnExactApplySpec)

/-- 'laws.FnExactCompose', WHERE WHAT IT READS IS OF BULK AT MOST 1048576: true; the input reads as it did. -/
def fnExactComposeUptoRow : OpenClaim := { program := "ytngdhpelnjckjaa", sum := "86e03ac8059985dc4ff4fd06cd1f39b78617cd1e2f8db93644880e270b7a20f2", func := "loop.example/g00682/laws.FnExactCompose", spec := "fnExactCompose", recurses := true, apart := false, narrowed := true }
def FnExactComposeUptoSaid : Prop := fnExactComposeUptoRow.holds Try.pinned (OpenSpec.upto fnExactComposeSpec)

/-- 'laws.FnExactMatch', WHERE WHAT IT READS IS OF BULK AT MOST 1048576: true; the input reads as it did. -/
def fnExactMatchUptoRow : OpenClaim := { program := "ytngdhpelnjckjaa", sum := "86e03ac8059985dc4ff4fd06cd1f39b78617cd1e2f8db93644880e270b7a20f2", func := "loop.example/g00682/laws.FnExactMatch", spec := "fnExactMatch", recurses := true, apart := false, narrowed := true }
def FnExactMatchUptoSaid : Prop := fnExactMatchUptoRow.holds Try.pinned (OpenSpec.upto fnExactMatchSpec)

/-- 'laws.FnExactUnify', WHERE WHAT IT READS IS OF BULK AT MOST 1048576: true; the input reads as it did. -/
def fnExactUnifyUptoRow : OpenClaim := { program := "ytngdhpelnjckjaa", sum := "86e03ac8059985dc4ff4fd06cd1f39b78617cd1e2f8db93644880e270b7a20f2", func := "loop.example/g00682/laws.FnExactUnify", spec := "fnExactUnify", recurses := true, apart := false, narrowed := true }
def FnExactUnifyUptoSaid : Prop := fnExactUnifyUptoRow.holds Try.pinned (OpenSpec.upto fnExactUnifySpec)

/-- 'laws.FnExactRenameOf', WHERE WHAT IT READS IS OF BULK AT MOST 1048576: true; the input reads as it did. -/
def fnExactRenameOfUptoRow : OpenClaim := { program := "ytngdhpelnjckjaa", sum := "86e03ac8059985dc4ff4fd06cd1f39b78617cd1e2f8db93644880e270b7a20f2", func := "loop.example/g00682/laws.FnExactRenameOf", spec := "fnExactRenameOf", apart := false, narrowed := true }
def FnExactRenameOfUptoSaid : Prop := fnExactRenameOfUptoRow.holds Try.pinned (OpenSpec.upto fnExactRenameOfSpec)

/-- 'laws.FnExactSameUpTo', WHERE WHAT IT READS IS OF BULK AT MOST 1048576: true; the input reads as it did. -/
def fnExactSameUpToUptoRow : OpenClaim := { program := "ytngdhpelnjckjaa", sum := "86e03ac8059985dc4ff4fd06cd1f39b78617cd1e2f8db93644880e270b7a20f2", func := "loop.example/g00682/laws.FnExactSameUpTo", spec := "fnExactSameUpTo", apart := false, narrowed := true }
def FnExactSameUpToUptoSaid : Prop := fnExactSameUpToUptoRow.holds Try.pinned (OpenSpec.upto fnExactSameUpToSpec)

/-- 'laws.FnExactIsUnifier', WHERE WHAT IT READS IS OF BULK AT MOST 1048576: true; the input reads as it did. -/
def fnExactIsUnifierUptoRow : OpenClaim := { program := "ytngdhpelnjckjaa", sum := "86e03ac8059985dc4ff4fd06cd1f39b78617cd1e2f8db93644880e270b7a20f2", func := "loop.example/g00682/laws.FnExactIsUnifier", spec := "fnExactIsUnifier", apart := false, narrowed := true }
def FnExactIsUnifierUptoSaid : Prop := fnExactIsUnifierUptoRow.holds Try.pinned (OpenSpec.upto fnExactIsUnifierSpec)

end Rows
end Go.Proofs.Ytngdhpelnjckjaa
