/-
  DERIVED. GIVEN WITH THE SEED: THE CARDS: each row of YteapfeaaofhgnaaGreatDoorRows.lean that lists a variable, with what it lists TIED to the program's text (the seventh form; the later family's looks); each row that meets fmt, with fmt's text TOLD by the authors' own Lean function (tested against real Go, not proved from fmt's source: count such statements apart). THE CARD IS WHAT COUNTS. Prove the row's statement (the work); the ties are given (YteapfeaaofhgnaaGreatDoorTie.lean); close each card by the builder's one call (the guide's Derived/Test/ToyasCard.lean, 'card_holds'). Laid BY PROGRAM, IN A SANDBOX (cutbox-door.mjs). By AI agents, Wed Nov 11 2026. No macro, syntax, notation, axiom, sorry.
-/
import Derived.Test.YteapfeaaofhgnaaGreatDoorRows
import GoSem.ClaimSeven
namespace Go.Proofs.YteapfeaaofhgnaaGreatDoor
namespace Rows

/-- THE TIED CARD OF 'laws.FnExactResolve'. -/
def fnExactResolveCard : Claim7 := { stood := { row := fnExactResolveRow, standIns := [], harness := (true, "1db4bf49b1482216b87789d85722a43c3d30baf1b854c453c504922dac11404f"), looks := false }, kinds := [], alts := [], laidByText := true, laidKinds := [.data], laidTests := true, laidLooks := .later }
def FnExactResolveCardSaid : Prop := Claim7.holds Tryz.pinned (.plain (OpenSpec.ofChange fnExactResolveSpec)) fnExactResolveCard

/-- THE TIED CARD OF 'laws.FnExactFactor'. -/
def fnExactFactorCard : Claim7 := { stood := { row := fnExactFactorRow, standIns := [], harness := (true, "1db4bf49b1482216b87789d85722a43c3d30baf1b854c453c504922dac11404f"), looks := false }, kinds := [], alts := [], laidByText := true, laidKinds := [.data], laidTests := true, laidLooks := .later }
def FnExactFactorCardSaid : Prop := Claim7.holds Tryz.pinned (.plain (OpenSpec.ofChange fnExactFactorSpec)) fnExactFactorCard

/-- THE TIED CARD OF 'laws.FnExactSuperpose'. -/
def fnExactSuperposeCard : Claim7 := { stood := { row := fnExactSuperposeRow, standIns := [], harness := (true, "1db4bf49b1482216b87789d85722a43c3d30baf1b854c453c504922dac11404f"), looks := false }, kinds := [], alts := [], laidByText := true, laidKinds := [.data], laidTests := true, laidLooks := .later }
def FnExactSuperposeCardSaid : Prop := Claim7.holds Tryz.pinned (.plain (OpenSpec.ofChange fnExactSuperposeSpec)) fnExactSuperposeCard

/-- THE TIED CARD OF 'laws.FnExactSingleWays'. -/
def fnExactSingleWaysCard : Claim7 := { stood := { row := fnExactSingleWaysRow, standIns := [], harness := (true, "1db4bf49b1482216b87789d85722a43c3d30baf1b854c453c504922dac11404f"), looks := false }, kinds := [], alts := [], laidByText := true, laidKinds := [.data], laidTests := true, laidLooks := .later }
def FnExactSingleWaysCardSaid : Prop := Claim7.holds Tryz.pinned (.plain (OpenSpec.ofChange fnExactSingleWaysSpec)) fnExactSingleWaysCard

/-- THE TIED CARD OF 'laws.FnExactWaysInto'. -/
def fnExactWaysIntoCard : Claim7 := { stood := { row := fnExactWaysIntoRow, standIns := [], harness := (true, "1db4bf49b1482216b87789d85722a43c3d30baf1b854c453c504922dac11404f"), looks := false }, kinds := [], alts := [], laidByText := true, laidKinds := [.data], laidTests := true, laidLooks := .later }
def FnExactWaysIntoCardSaid : Prop := Claim7.holds Tryz.pinned (.plain (OpenSpec.ofChange fnExactWaysIntoSpec)) fnExactWaysIntoCard

/-- THE SECOND FORM's CARD OF 'laws.FnExactResolve'. -/
def fnExactResolveUptoCard : Claim7 := { stood := { row := fnExactResolveUptoRow, standIns := [], harness := (true, "1db4bf49b1482216b87789d85722a43c3d30baf1b854c453c504922dac11404f"), looks := false }, kinds := [], alts := [], laidByText := true, laidKinds := [.data], laidTests := true, laidLooks := .later }
def FnExactResolveUptoCardSaid : Prop := Claim7.holds Tryz.pinned (.plain (OpenSpec.upto fnExactResolveSpec)) fnExactResolveUptoCard

/-- THE SECOND FORM's CARD OF 'laws.FnExactFactor'. -/
def fnExactFactorUptoCard : Claim7 := { stood := { row := fnExactFactorUptoRow, standIns := [], harness := (true, "1db4bf49b1482216b87789d85722a43c3d30baf1b854c453c504922dac11404f"), looks := false }, kinds := [], alts := [], laidByText := true, laidKinds := [.data], laidTests := true, laidLooks := .later }
def FnExactFactorUptoCardSaid : Prop := Claim7.holds Tryz.pinned (.plain (OpenSpec.upto fnExactFactorSpec)) fnExactFactorUptoCard

/-- THE SECOND FORM's CARD OF 'laws.FnExactSuperpose'. -/
def fnExactSuperposeUptoCard : Claim7 := { stood := { row := fnExactSuperposeUptoRow, standIns := [], harness := (true, "1db4bf49b1482216b87789d85722a43c3d30baf1b854c453c504922dac11404f"), looks := false }, kinds := [], alts := [], laidByText := true, laidKinds := [.data], laidTests := true, laidLooks := .later }
def FnExactSuperposeUptoCardSaid : Prop := Claim7.holds Tryz.pinned (.plain (OpenSpec.upto fnExactSuperposeSpec)) fnExactSuperposeUptoCard

/-- THE SECOND FORM's CARD OF 'laws.FnExactSingleWays'. -/
def fnExactSingleWaysUptoCard : Claim7 := { stood := { row := fnExactSingleWaysUptoRow, standIns := [], harness := (true, "1db4bf49b1482216b87789d85722a43c3d30baf1b854c453c504922dac11404f"), looks := false }, kinds := [], alts := [], laidByText := true, laidKinds := [.data], laidTests := true, laidLooks := .later }
def FnExactSingleWaysUptoCardSaid : Prop := Claim7.holds Tryz.pinned (.plain (OpenSpec.upto fnExactSingleWaysSpec)) fnExactSingleWaysUptoCard

/-- THE SECOND FORM's CARD OF 'laws.FnExactWaysInto'. -/
def fnExactWaysIntoUptoCard : Claim7 := { stood := { row := fnExactWaysIntoUptoRow, standIns := [], harness := (true, "1db4bf49b1482216b87789d85722a43c3d30baf1b854c453c504922dac11404f"), looks := false }, kinds := [], alts := [], laidByText := true, laidKinds := [.data], laidTests := true, laidLooks := .later }
def FnExactWaysIntoUptoCardSaid : Prop := Claim7.holds Tryz.pinned (.plain (OpenSpec.upto fnExactWaysIntoSpec)) fnExactWaysIntoUptoCard
end Rows
end Go.Proofs.YteapfeaaofhgnaaGreatDoor
