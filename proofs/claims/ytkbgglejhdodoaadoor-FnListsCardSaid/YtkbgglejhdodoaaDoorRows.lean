/-
  NARROWER THAN 'FOR EVERY INPUT', by the rows' own cells (each row's printed sentence says how): FnOrder: laid · FnLists: laid · FnExactCompareTerms: laid · FnExactCompareLists: laid · FnExactIsFalling: laid · FnExactWeighsMore: laid.
  DERIVED. THE GIVEN ROWS OF THIS SEAT. 6 by the template 'for every input the law returns true; each argument reads behind the call as it read before'; 0 by the template 'total and deterministic' (their statements: YtkbgglejhdodoaaDoorTotals.lean).
  GIVEN WITH THE SEED: the statements are not yours to turn. If you find one false, say at which input.
  Laid BY PROGRAM, IN A SANDBOX (cutbox-rows.mjs): the forced cells as the released guide's own fill.sh prints them over the translation e43acfd747d0c3f4… (all of the seat's roots in one cut). By AI agents, Wed Nov 11 2026. No macro, syntax, notation, axiom, sorry.
-/
import Derived.Test.YtkbgglejhdodoaaDoorChecked
import GoSem.Claim
import GoSem.ClaimJoined
import GoSem.ClaimMapViews
import Derived.JoinedTies
import Derived.KernelRfl
namespace Go.Proofs.YtkbgglejhdodoaaDoor
/- THE CELL 'sum', in the pinned program and in every row, IS THE sha256 OF THE DUMP (.gsa) THAT YtkbgglejhdodoaaDoorProg.lean LOADS. Nothing in Lean hashes anything: it is a label: what it is worth is what the hold of that sum in a sandbox is worth. -/
noncomputable def Tryd.pinned : Pinned := { name := "ytkbgglejhdodoaadoor", sum := "e43acfd747d0c3f48b6ca19b2b07186fb252b4085c1bafcd6515676e4fd624c4", checked := Tryd.checked }
namespace Rows
def none {H : Type} : Left H := { results := [], args := [] }

/- WHAT THE LISTED PACKAGE-LEVEL VARIABLES READ AS WHEN THE CALL BEGINS. Each datum BY PROGRAM (the guide's laid-datum.mjs) off the statement by which the dump's own 'gosem.cut.vars' lays the variable. In a bare row this is a premise. The card (YtkbgglejhdodoaaDoorCards.lean) ties it to the program's text. -/
def laid_loop_example_g00682_impl_weights {H : Type} : DataW H := .agg [.lit (.int .i64 1), .lit (.int .i64 1)]

/-- 'laws.FnOrder': WHATEVER THE INPUT: true; the input reads as it did. -/
def fnOrderSpec : ChangeSpec := { name := "fnOrder", vars := ["loop.example/g00682/impl.weights"], fn := fun _ => fun
  | [d1, d2, g1] => { results := [.lit (.bool true)], args := [d1, d2], vars := [g1] }
  | _ => none }
def fnOrderRow : OpenClaim := { program := "ytkbgglejhdodoaadoor", sum := "e43acfd747d0c3f48b6ca19b2b07186fb252b4085c1bafcd6515676e4fd624c4", func := "loop.example/g00682/laws.FnOrder", spec := "fnOrder", recurses := true, named := ["loop.example/g00682/impl.weights"], apart := false, laid := [("loop.example/g00682/impl.weights", laid_loop_example_g00682_impl_weights)] }
def FnOrderSaid : Prop := fnOrderRow.holds Tryd.pinned (OpenSpec.ofChange fnOrderSpec)

/-- ITS FALSE NEIGHBOUR: 'it returns false'. Refute it at one input. -/
def fnOrderWrong : ChangeSpec := { name := "fnOrder", vars := ["loop.example/g00682/impl.weights"], fn := fun _ => fun
  | [d1, d2, g1] => { results := [.lit (.bool false)], args := [d1, d2], vars := [g1] }
  | _ => none }
def FnOrderWrongFalsely : Prop := fnOrderRow.holds Tryd.pinned (OpenSpec.ofChange fnOrderWrong)

/-- 'laws.FnLists': WHATEVER THE INPUT: true; the input reads as it did. -/
def fnListsSpec : ChangeSpec := { name := "fnLists", vars := ["loop.example/g00682/impl.weights"], fn := fun _ => fun
  | [d1, d2, g1] => { results := [.lit (.bool true)], args := [d1, d2], vars := [g1] }
  | _ => none }
def fnListsRow : OpenClaim := { program := "ytkbgglejhdodoaadoor", sum := "e43acfd747d0c3f48b6ca19b2b07186fb252b4085c1bafcd6515676e4fd624c4", func := "loop.example/g00682/laws.FnLists", spec := "fnLists", unfollowed := true, recurses := true, named := ["loop.example/g00682/impl.weights"], apart := false, laid := [("loop.example/g00682/impl.weights", laid_loop_example_g00682_impl_weights)] }
def FnListsSaid : Prop := fnListsRow.holds Tryd.pinned (OpenSpec.ofChange fnListsSpec)

/-- ITS FALSE NEIGHBOUR: 'it returns false'. Refute it at one input. -/
def fnListsWrong : ChangeSpec := { name := "fnLists", vars := ["loop.example/g00682/impl.weights"], fn := fun _ => fun
  | [d1, d2, g1] => { results := [.lit (.bool false)], args := [d1, d2], vars := [g1] }
  | _ => none }
def FnListsWrongFalsely : Prop := fnListsRow.holds Tryd.pinned (OpenSpec.ofChange fnListsWrong)

/-- 'laws.FnExactCompareTerms': WHATEVER THE INPUT: true; the input reads as it did. -/
def fnExactCompareTermsSpec : ChangeSpec := { name := "fnExactCompareTerms", vars := ["loop.example/g00682/impl.weights"], fn := fun _ => fun
  | [d1, d2, d3, g1] => { results := [.lit (.bool true)], args := [d1, d2, d3], vars := [g1] }
  | _ => none }
def fnExactCompareTermsRow : OpenClaim := { program := "ytkbgglejhdodoaadoor", sum := "e43acfd747d0c3f48b6ca19b2b07186fb252b4085c1bafcd6515676e4fd624c4", func := "loop.example/g00682/laws.FnExactCompareTerms", spec := "fnExactCompareTerms", named := ["loop.example/g00682/impl.weights"], apart := false, laid := [("loop.example/g00682/impl.weights", laid_loop_example_g00682_impl_weights)] }
def FnExactCompareTermsSaid : Prop := fnExactCompareTermsRow.holds Tryd.pinned (OpenSpec.ofChange fnExactCompareTermsSpec)

/-- ITS FALSE NEIGHBOUR: 'it returns false'. Refute it at one input. -/
def fnExactCompareTermsWrong : ChangeSpec := { name := "fnExactCompareTerms", vars := ["loop.example/g00682/impl.weights"], fn := fun _ => fun
  | [d1, d2, d3, g1] => { results := [.lit (.bool false)], args := [d1, d2, d3], vars := [g1] }
  | _ => none }
def FnExactCompareTermsWrongFalsely : Prop := fnExactCompareTermsRow.holds Tryd.pinned (OpenSpec.ofChange fnExactCompareTermsWrong)

/-- 'laws.FnExactCompareLists': WHATEVER THE INPUT: true; the input reads as it did. -/
def fnExactCompareListsSpec : ChangeSpec := { name := "fnExactCompareLists", vars := ["loop.example/g00682/impl.weights"], fn := fun _ => fun
  | [d1, d2, d3, g1] => { results := [.lit (.bool true)], args := [d1, d2, d3], vars := [g1] }
  | _ => none }
def fnExactCompareListsRow : OpenClaim := { program := "ytkbgglejhdodoaadoor", sum := "e43acfd747d0c3f48b6ca19b2b07186fb252b4085c1bafcd6515676e4fd624c4", func := "loop.example/g00682/laws.FnExactCompareLists", spec := "fnExactCompareLists", unfollowed := true, recurses := true, named := ["loop.example/g00682/impl.weights"], apart := false, laid := [("loop.example/g00682/impl.weights", laid_loop_example_g00682_impl_weights)] }
def FnExactCompareListsSaid : Prop := fnExactCompareListsRow.holds Tryd.pinned (OpenSpec.ofChange fnExactCompareListsSpec)

/-- ITS FALSE NEIGHBOUR: 'it returns false'. Refute it at one input. -/
def fnExactCompareListsWrong : ChangeSpec := { name := "fnExactCompareLists", vars := ["loop.example/g00682/impl.weights"], fn := fun _ => fun
  | [d1, d2, d3, g1] => { results := [.lit (.bool false)], args := [d1, d2, d3], vars := [g1] }
  | _ => none }
def FnExactCompareListsWrongFalsely : Prop := fnExactCompareListsRow.holds Tryd.pinned (OpenSpec.ofChange fnExactCompareListsWrong)

/-- 'laws.FnExactIsFalling': WHATEVER THE INPUT: true; the input reads as it did. -/
def fnExactIsFallingSpec : ChangeSpec := { name := "fnExactIsFalling", vars := ["loop.example/g00682/impl.weights"], fn := fun _ => fun
  | [d1, d2, g1] => { results := [.lit (.bool true)], args := [d1, d2], vars := [g1] }
  | _ => none }
def fnExactIsFallingRow : OpenClaim := { program := "ytkbgglejhdodoaadoor", sum := "e43acfd747d0c3f48b6ca19b2b07186fb252b4085c1bafcd6515676e4fd624c4", func := "loop.example/g00682/laws.FnExactIsFalling", spec := "fnExactIsFalling", named := ["loop.example/g00682/impl.weights"], apart := false, laid := [("loop.example/g00682/impl.weights", laid_loop_example_g00682_impl_weights)] }
def FnExactIsFallingSaid : Prop := fnExactIsFallingRow.holds Tryd.pinned (OpenSpec.ofChange fnExactIsFallingSpec)

/-- ITS FALSE NEIGHBOUR: 'it returns false'. Refute it at one input. -/
def fnExactIsFallingWrong : ChangeSpec := { name := "fnExactIsFalling", vars := ["loop.example/g00682/impl.weights"], fn := fun _ => fun
  | [d1, d2, g1] => { results := [.lit (.bool false)], args := [d1, d2], vars := [g1] }
  | _ => none }
def FnExactIsFallingWrongFalsely : Prop := fnExactIsFallingRow.holds Tryd.pinned (OpenSpec.ofChange fnExactIsFallingWrong)

/-- 'laws.FnExactWeighsMore': WHATEVER THE INPUT: true; the input reads as it did. -/
def fnExactWeighsMoreSpec : ChangeSpec := { name := "fnExactWeighsMore", vars := ["loop.example/g00682/impl.weights"], fn := fun _ => fun
  | [d1, d2, d3, g1] => { results := [.lit (.bool true)], args := [d1, d2, d3], vars := [g1] }
  | _ => none }
def fnExactWeighsMoreRow : OpenClaim := { program := "ytkbgglejhdodoaadoor", sum := "e43acfd747d0c3f48b6ca19b2b07186fb252b4085c1bafcd6515676e4fd624c4", func := "loop.example/g00682/laws.FnExactWeighsMore", spec := "fnExactWeighsMore", named := ["loop.example/g00682/impl.weights"], apart := false, laid := [("loop.example/g00682/impl.weights", laid_loop_example_g00682_impl_weights)] }
def FnExactWeighsMoreSaid : Prop := fnExactWeighsMoreRow.holds Tryd.pinned (OpenSpec.ofChange fnExactWeighsMoreSpec)

/-- ITS FALSE NEIGHBOUR: 'it returns false'. Refute it at one input. -/
def fnExactWeighsMoreWrong : ChangeSpec := { name := "fnExactWeighsMore", vars := ["loop.example/g00682/impl.weights"], fn := fun _ => fun
  | [d1, d2, d3, g1] => { results := [.lit (.bool false)], args := [d1, d2, d3], vars := [g1] }
  | _ => none }
def FnExactWeighsMoreWrongFalsely : Prop := fnExactWeighsMoreRow.holds Tryd.pinned (OpenSpec.ofChange fnExactWeighsMoreWrong)

/- THE SECOND FORM. 'bulk': how many values and letters a reading holds, each counted each time it is reached (what is shared counts as often as it is met; a slice's spare places count too). A statement '..UptoSaid' is the law's where the arguments, and the package variables that the reading takes, are together of bulk at most 1048576: NARROWER than '..Said'. Prove '..Said' where nothing that the law and all that it calls make is longer than what came in: it says more and counts as full. Else prove '..UptoSaid'. A law counts once. -/
mutual
def uptoBulk {H : Type} : DataW H → Nat
  | .lit (.string bytes) => bytes.length + 1
  | .lit _ => 1
  | .nil => 1
  | .ptr d => uptoBulk d + 1
  | .slice elems spare => uptoBulkAll elems + uptoBulkAll spare + 1
  | .agg parts => uptoBulkAll parts + 1
  | .iface _ d => uptoBulk d + 1
  | .map entries => uptoBulkEntries entries + 1
  | .held _ => 1
def uptoBulkAll {H : Type} : List (DataW H) → Nat
  | [] => 0
  | d :: r => uptoBulk d + uptoBulkAll r
def uptoBulkEntries {H : Type} : List (Lit × DataW H) → Nat
  | [] => 0
  | x :: r => uptoBulkEntry x + uptoBulkEntries r
def uptoBulkEntry {H : Type} : Lit × DataW H → Nat
  | (.string bytes, d) => bytes.length + uptoBulk d + 1
  | (_, d) => uptoBulk d + 1
 end
def uptoSmall : (H : Type) → List (DataW H) → Bool := fun _ ds => decide (uptoBulkAll ds ≤ 1048576)
def OpenSpec.upto (s : _root_.Go.ChangeSpec) : _root_.Go.OpenSpec := { _root_.Go.OpenSpec.ofChange s with cond := some uptoSmall }

/-- 'laws.FnOrder', WHERE WHAT IT READS IS OF BULK AT MOST 1048576: true; the input reads as it did. -/
def fnOrderUptoRow : OpenClaim := { program := "ytkbgglejhdodoaadoor", sum := "e43acfd747d0c3f48b6ca19b2b07186fb252b4085c1bafcd6515676e4fd624c4", func := "loop.example/g00682/laws.FnOrder", spec := "fnOrder", recurses := true, named := ["loop.example/g00682/impl.weights"], apart := false, laid := [("loop.example/g00682/impl.weights", laid_loop_example_g00682_impl_weights)], narrowed := true }
def FnOrderUptoSaid : Prop := fnOrderUptoRow.holds Tryd.pinned (OpenSpec.upto fnOrderSpec)

/-- 'laws.FnLists', WHERE WHAT IT READS IS OF BULK AT MOST 1048576: true; the input reads as it did. -/
def fnListsUptoRow : OpenClaim := { program := "ytkbgglejhdodoaadoor", sum := "e43acfd747d0c3f48b6ca19b2b07186fb252b4085c1bafcd6515676e4fd624c4", func := "loop.example/g00682/laws.FnLists", spec := "fnLists", unfollowed := true, recurses := true, named := ["loop.example/g00682/impl.weights"], apart := false, laid := [("loop.example/g00682/impl.weights", laid_loop_example_g00682_impl_weights)], narrowed := true }
def FnListsUptoSaid : Prop := fnListsUptoRow.holds Tryd.pinned (OpenSpec.upto fnListsSpec)

/-- 'laws.FnExactCompareTerms', WHERE WHAT IT READS IS OF BULK AT MOST 1048576: true; the input reads as it did. -/
def fnExactCompareTermsUptoRow : OpenClaim := { program := "ytkbgglejhdodoaadoor", sum := "e43acfd747d0c3f48b6ca19b2b07186fb252b4085c1bafcd6515676e4fd624c4", func := "loop.example/g00682/laws.FnExactCompareTerms", spec := "fnExactCompareTerms", named := ["loop.example/g00682/impl.weights"], apart := false, laid := [("loop.example/g00682/impl.weights", laid_loop_example_g00682_impl_weights)], narrowed := true }
def FnExactCompareTermsUptoSaid : Prop := fnExactCompareTermsUptoRow.holds Tryd.pinned (OpenSpec.upto fnExactCompareTermsSpec)

/-- 'laws.FnExactCompareLists', WHERE WHAT IT READS IS OF BULK AT MOST 1048576: true; the input reads as it did. -/
def fnExactCompareListsUptoRow : OpenClaim := { program := "ytkbgglejhdodoaadoor", sum := "e43acfd747d0c3f48b6ca19b2b07186fb252b4085c1bafcd6515676e4fd624c4", func := "loop.example/g00682/laws.FnExactCompareLists", spec := "fnExactCompareLists", unfollowed := true, recurses := true, named := ["loop.example/g00682/impl.weights"], apart := false, laid := [("loop.example/g00682/impl.weights", laid_loop_example_g00682_impl_weights)], narrowed := true }
def FnExactCompareListsUptoSaid : Prop := fnExactCompareListsUptoRow.holds Tryd.pinned (OpenSpec.upto fnExactCompareListsSpec)

/-- 'laws.FnExactIsFalling', WHERE WHAT IT READS IS OF BULK AT MOST 1048576: true; the input reads as it did. -/
def fnExactIsFallingUptoRow : OpenClaim := { program := "ytkbgglejhdodoaadoor", sum := "e43acfd747d0c3f48b6ca19b2b07186fb252b4085c1bafcd6515676e4fd624c4", func := "loop.example/g00682/laws.FnExactIsFalling", spec := "fnExactIsFalling", named := ["loop.example/g00682/impl.weights"], apart := false, laid := [("loop.example/g00682/impl.weights", laid_loop_example_g00682_impl_weights)], narrowed := true }
def FnExactIsFallingUptoSaid : Prop := fnExactIsFallingUptoRow.holds Tryd.pinned (OpenSpec.upto fnExactIsFallingSpec)

/-- 'laws.FnExactWeighsMore', WHERE WHAT IT READS IS OF BULK AT MOST 1048576: true; the input reads as it did. -/
def fnExactWeighsMoreUptoRow : OpenClaim := { program := "ytkbgglejhdodoaadoor", sum := "e43acfd747d0c3f48b6ca19b2b07186fb252b4085c1bafcd6515676e4fd624c4", func := "loop.example/g00682/laws.FnExactWeighsMore", spec := "fnExactWeighsMore", named := ["loop.example/g00682/impl.weights"], apart := false, laid := [("loop.example/g00682/impl.weights", laid_loop_example_g00682_impl_weights)], narrowed := true }
def FnExactWeighsMoreUptoSaid : Prop := fnExactWeighsMoreUptoRow.holds Tryd.pinned (OpenSpec.upto fnExactWeighsMoreSpec)

end Rows
end Go.Proofs.YtkbgglejhdodoaaDoor
