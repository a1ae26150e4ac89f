/-
  DERIVED. GIVEN WITH THE SEED: THE CARDS: each row of YtkbgglejhdodoaaDoorRows.lean that lists a variable, with what it lists TIED to the program's text (the seventh form; the later family's looks); each row that meets fmt, with fmt's text TOLD by the authors' own Lean function (tested against real Go, not proved from fmt's source: count such statements apart). THE CARD IS WHAT COUNTS. Prove the row's statement (the work); the ties are given (YtkbgglejhdodoaaDoorTie.lean); close each card by the builder's one call (the guide's Derived/Test/ToyasCard.lean, 'card_holds'). Laid BY PROGRAM, IN A SANDBOX (cutbox-door.mjs). By AI agents, Wed Nov 11 2026. No macro, syntax, notation, axiom, sorry.
-/
import Derived.Test.YtkbgglejhdodoaaDoorRows
import GoSem.ClaimSeven
namespace Go.Proofs.YtkbgglejhdodoaaDoor
namespace Rows

/-- THE TIED CARD OF 'laws.FnOrder'. -/
def fnOrderCard : Claim7 := { stood := { row := fnOrderRow, standIns := [], harness := (true, "c5481104b483417364cfcb4c941bb3618e427db21553dd87c887bd5da98888bc"), looks := false }, kinds := [], alts := [], laidByText := true, laidKinds := [.data], laidTests := true, laidLooks := .later }
def FnOrderCardSaid : Prop := Claim7.holds Tryd.pinned (.plain (OpenSpec.ofChange fnOrderSpec)) fnOrderCard

/-- THE TIED CARD OF 'laws.FnLists'. -/
def fnListsCard : Claim7 := { stood := { row := fnListsRow, standIns := [], harness := (true, "c5481104b483417364cfcb4c941bb3618e427db21553dd87c887bd5da98888bc"), looks := false }, kinds := [], alts := [], laidByText := true, laidKinds := [.data], laidTests := true, laidLooks := .later }
def FnListsCardSaid : Prop := Claim7.holds Tryd.pinned (.plain (OpenSpec.ofChange fnListsSpec)) fnListsCard

/-- THE TIED CARD OF 'laws.FnExactCompareTerms'. -/
def fnExactCompareTermsCard : Claim7 := { stood := { row := fnExactCompareTermsRow, standIns := [], harness := (true, "c5481104b483417364cfcb4c941bb3618e427db21553dd87c887bd5da98888bc"), looks := false }, kinds := [], alts := [], laidByText := true, laidKinds := [.data], laidTests := true, laidLooks := .later }
def FnExactCompareTermsCardSaid : Prop := Claim7.holds Tryd.pinned (.plain (OpenSpec.ofChange fnExactCompareTermsSpec)) fnExactCompareTermsCard

/-- THE TIED CARD OF 'laws.FnExactCompareLists'. -/
def fnExactCompareListsCard : Claim7 := { stood := { row := fnExactCompareListsRow, standIns := [], harness := (true, "c5481104b483417364cfcb4c941bb3618e427db21553dd87c887bd5da98888bc"), looks := false }, kinds := [], alts := [], laidByText := true, laidKinds := [.data], laidTests := true, laidLooks := .later }
def FnExactCompareListsCardSaid : Prop := Claim7.holds Tryd.pinned (.plain (OpenSpec.ofChange fnExactCompareListsSpec)) fnExactCompareListsCard

/-- THE TIED CARD OF 'laws.FnExactIsFalling'. -/
def fnExactIsFallingCard : Claim7 := { stood := { row := fnExactIsFallingRow, standIns := [], harness := (true, "c5481104b483417364cfcb4c941bb3618e427db21553dd87c887bd5da98888bc"), looks := false }, kinds := [], alts := [], laidByText := true, laidKinds := [.data], laidTests := true, laidLooks := .later }
def FnExactIsFallingCardSaid : Prop := Claim7.holds Tryd.pinned (.plain (OpenSpec.ofChange fnExactIsFallingSpec)) fnExactIsFallingCard

/-- THE TIED CARD OF 'laws.FnExactWeighsMore'. -/
def fnExactWeighsMoreCard : Claim7 := { stood := { row := fnExactWeighsMoreRow, standIns := [], harness := (true, "c5481104b483417364cfcb4c941bb3618e427db21553dd87c887bd5da98888bc"), looks := false }, kinds := [], alts := [], laidByText := true, laidKinds := [.data], laidTests := true, laidLooks := .later }
def FnExactWeighsMoreCardSaid : Prop := Claim7.holds Tryd.pinned (.plain (OpenSpec.ofChange fnExactWeighsMoreSpec)) fnExactWeighsMoreCard

/-- THE SECOND FORM's CARD OF 'laws.FnOrder'. -/
def fnOrderUptoCard : Claim7 := { stood := { row := fnOrderUptoRow, standIns := [], harness := (true, "c5481104b483417364cfcb4c941bb3618e427db21553dd87c887bd5da98888bc"), looks := false }, kinds := [], alts := [], laidByText := true, laidKinds := [.data], laidTests := true, laidLooks := .later }
def FnOrderUptoCardSaid : Prop := Claim7.holds Tryd.pinned (.plain (OpenSpec.upto fnOrderSpec)) fnOrderUptoCard

/-- THE SECOND FORM's CARD OF 'laws.FnLists'. -/
def fnListsUptoCard : Claim7 := { stood := { row := fnListsUptoRow, standIns := [], harness := (true, "c5481104b483417364cfcb4c941bb3618e427db21553dd87c887bd5da98888bc"), looks := false }, kinds := [], alts := [], laidByText := true, laidKinds := [.data], laidTests := true, laidLooks := .later }
def FnListsUptoCardSaid : Prop := Claim7.holds Tryd.pinned (.plain (OpenSpec.upto fnListsSpec)) fnListsUptoCard

/-- THE SECOND FORM's CARD OF 'laws.FnExactCompareTerms'. -/
def fnExactCompareTermsUptoCard : Claim7 := { stood := { row := fnExactCompareTermsUptoRow, standIns := [], harness := (true, "c5481104b483417364cfcb4c941bb3618e427db21553dd87c887bd5da98888bc"), looks := false }, kinds := [], alts := [], laidByText := true, laidKinds := [.data], laidTests := true, laidLooks := .later }
def FnExactCompareTermsUptoCardSaid : Prop := Claim7.holds Tryd.pinned (.plain (OpenSpec.upto fnExactCompareTermsSpec)) fnExactCompareTermsUptoCard

/-- THE SECOND FORM's CARD OF 'laws.FnExactCompareLists'. -/
def fnExactCompareListsUptoCard : Claim7 := { stood := { row := fnExactCompareListsUptoRow, standIns := [], harness := (true, "c5481104b483417364cfcb4c941bb3618e427db21553dd87c887bd5da98888bc"), looks := false }, kinds := [], alts := [], laidByText := true, laidKinds := [.data], laidTests := true, laidLooks := .later }
def FnExactCompareListsUptoCardSaid : Prop := Claim7.holds Tryd.pinned (.plain (OpenSpec.upto fnExactCompareListsSpec)) fnExactCompareListsUptoCard

/-- THE SECOND FORM's CARD OF 'laws.FnExactIsFalling'. -/
def fnExactIsFallingUptoCard : Claim7 := { stood := { row := fnExactIsFallingUptoRow, standIns := [], harness := (true, "c5481104b483417364cfcb4c941bb3618e427db21553dd87c887bd5da98888bc"), looks := false }, kinds := [], alts := [], laidByText := true, laidKinds := [.data], laidTests := true, laidLooks := .later }
def FnExactIsFallingUptoCardSaid : Prop := Claim7.holds Tryd.pinned (.plain (OpenSpec.upto fnExactIsFallingSpec)) fnExactIsFallingUptoCard

/-- THE SECOND FORM's CARD OF 'laws.FnExactWeighsMore'. -/
def fnExactWeighsMoreUptoCard : Claim7 := { stood := { row := fnExactWeighsMoreUptoRow, standIns := [], harness := (true, "c5481104b483417364cfcb4c941bb3618e427db21553dd87c887bd5da98888bc"), looks := false }, kinds := [], alts := [], laidByText := true, laidKinds := [.data], laidTests := true, laidLooks := .later }
def FnExactWeighsMoreUptoCardSaid : Prop := Claim7.holds Tryd.pinned (.plain (OpenSpec.upto fnExactWeighsMoreSpec)) fnExactWeighsMoreUptoCard
end Rows
end Go.Proofs.YtkbgglejhdodoaaDoor
