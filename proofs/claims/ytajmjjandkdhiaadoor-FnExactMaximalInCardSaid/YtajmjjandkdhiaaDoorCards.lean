/-
  DERIVED. GIVEN WITH THE SEED: THE CARDS: each row of YtajmjjandkdhiaaDoorRows.lean that lists a variable, with what it lists TIED to the program's text (the seventh form; the later family's looks); each row that meets fmt, with fmt's text TOLD by the authors' own Lean function (tested against real Go, not proved from fmt's source: count such statements apart). THE CARD IS WHAT COUNTS. Prove the row's statement (the work); the ties are given (YtajmjjandkdhiaaDoorTie.lean); close each card by the builder's one call (the guide's Derived/Test/ToyasCard.lean, 'card_holds'). Laid BY PROGRAM, IN A SANDBOX (cutbox-door.mjs). By AI agents, Wed Nov 11 2026. No macro, syntax, notation, axiom, sorry.
-/
import Derived.Test.YtajmjjandkdhiaaDoorRows
import GoSem.ClaimSeven
namespace Go.Proofs.YtajmjjandkdhiaaDoor
namespace Rows

/-- THE TIED CARD OF 'laws.FnExactCompareLits'. -/
def fnExactCompareLitsCard : Claim7 := { stood := { row := fnExactCompareLitsRow, standIns := [], harness := (true, "220eec657a50c5da86f89ff36e4e870b59bf94b928ab23e954f706f884fb9893"), looks := false }, kinds := [], alts := [], laidByText := true, laidKinds := [.data], laidTests := true, laidLooks := .later }
def FnExactCompareLitsCardSaid : Prop := Claim7.holds Tryd.pinned (.plain (OpenSpec.ofChange fnExactCompareLitsSpec)) fnExactCompareLitsCard

/-- THE TIED CARD OF 'laws.FnExactMaximalIn'. -/
def fnExactMaximalInCard : Claim7 := { stood := { row := fnExactMaximalInRow, standIns := [], harness := (true, "220eec657a50c5da86f89ff36e4e870b59bf94b928ab23e954f706f884fb9893"), looks := false }, kinds := [], alts := [], laidByText := true, laidKinds := [.data], laidTests := true, laidLooks := .later }
def FnExactMaximalInCardSaid : Prop := Claim7.holds Tryd.pinned (.plain (OpenSpec.ofChange fnExactMaximalInSpec)) fnExactMaximalInCard

/-- THE SECOND FORM's CARD OF 'laws.FnExactCompareLits'. -/
def fnExactCompareLitsUptoCard : Claim7 := { stood := { row := fnExactCompareLitsUptoRow, standIns := [], harness := (true, "220eec657a50c5da86f89ff36e4e870b59bf94b928ab23e954f706f884fb9893"), looks := false }, kinds := [], alts := [], laidByText := true, laidKinds := [.data], laidTests := true, laidLooks := .later }
def FnExactCompareLitsUptoCardSaid : Prop := Claim7.holds Tryd.pinned (.plain (OpenSpec.upto fnExactCompareLitsSpec)) fnExactCompareLitsUptoCard

/-- THE SECOND FORM's CARD OF 'laws.FnExactMaximalIn'. -/
def fnExactMaximalInUptoCard : Claim7 := { stood := { row := fnExactMaximalInUptoRow, standIns := [], harness := (true, "220eec657a50c5da86f89ff36e4e870b59bf94b928ab23e954f706f884fb9893"), looks := false }, kinds := [], alts := [], laidByText := true, laidKinds := [.data], laidTests := true, laidLooks := .later }
def FnExactMaximalInUptoCardSaid : Prop := Claim7.holds Tryd.pinned (.plain (OpenSpec.upto fnExactMaximalInSpec)) fnExactMaximalInUptoCard
end Rows
end Go.Proofs.YtajmjjandkdhiaaDoor
