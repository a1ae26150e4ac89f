/-
  DERIVED. GIVEN WITH THE SEED: THE CARDS: each row of YteapfeaaofhgnaaDoorRows.lean that lists a variable, with what it lists TIED to the program's text (the seventh form; the later family's looks); each row that meets fmt, with fmt's text TOLD by the authors' own Lean function (tested against real Go, not proved from fmt's source: count such statements apart). THE CARD IS WHAT COUNTS. Prove the row's statement (the work); the ties are given (YteapfeaaofhgnaaDoorTie.lean); close each card by the builder's one call (the guide's Derived/Test/ToyasCard.lean, 'card_holds'). Laid BY PROGRAM, IN A SANDBOX (cutbox-door.mjs). By AI agents, Wed Nov 11 2026. No macro, syntax, notation, axiom, sorry.
-/
import Derived.Test.YteapfeaaofhgnaaDoorRows
import GoSem.ClaimSeven
namespace Go.Proofs.YteapfeaaofhgnaaDoor
namespace Rows

/-- THE TIED CARD OF 'laws.FnExactMaximalIn'. -/
def fnExactMaximalInCard : Claim7 := { stood := { row := fnExactMaximalInRow, standIns := [], harness := (true, "04061a0e38cad32b759bce4048e9cd89b2caee04d94edf1461f054d1ffb8dd73"), looks := false }, kinds := [], alts := [], laidByText := true, laidKinds := [.data], laidTests := true, laidLooks := .later }
def FnExactMaximalInCardSaid : Prop := Claim7.holds Tryd.pinned (.plain (OpenSpec.ofChange fnExactMaximalInSpec)) fnExactMaximalInCard

/-- THE TIED CARD OF 'laws.FnMaximal'. -/
def fnMaximalCard : Claim7 := { stood := { row := fnMaximalRow, standIns := [], harness := (true, "04061a0e38cad32b759bce4048e9cd89b2caee04d94edf1461f054d1ffb8dd73"), looks := false }, kinds := [], alts := [], laidByText := true, laidKinds := [.data], laidTests := true, laidLooks := .later }
def FnMaximalCardSaid : Prop := Claim7.holds Tryd.pinned (.plain (OpenSpec.ofChange fnMaximalSpec)) fnMaximalCard

/-- THE SECOND FORM's CARD OF 'laws.FnExactMaximalIn'. -/
def fnExactMaximalInUptoCard : Claim7 := { stood := { row := fnExactMaximalInUptoRow, standIns := [], harness := (true, "04061a0e38cad32b759bce4048e9cd89b2caee04d94edf1461f054d1ffb8dd73"), looks := false }, kinds := [], alts := [], laidByText := true, laidKinds := [.data], laidTests := true, laidLooks := .later }
def FnExactMaximalInUptoCardSaid : Prop := Claim7.holds Tryd.pinned (.plain (OpenSpec.upto fnExactMaximalInSpec)) fnExactMaximalInUptoCard

/-- THE SECOND FORM's CARD OF 'laws.FnMaximal'. -/
def fnMaximalUptoCard : Claim7 := { stood := { row := fnMaximalUptoRow, standIns := [], harness := (true, "04061a0e38cad32b759bce4048e9cd89b2caee04d94edf1461f054d1ffb8dd73"), looks := false }, kinds := [], alts := [], laidByText := true, laidKinds := [.data], laidTests := true, laidLooks := .later }
def FnMaximalUptoCardSaid : Prop := Claim7.holds Tryd.pinned (.plain (OpenSpec.upto fnMaximalSpec)) fnMaximalUptoCard
end Rows
end Go.Proofs.YteapfeaaofhgnaaDoor
