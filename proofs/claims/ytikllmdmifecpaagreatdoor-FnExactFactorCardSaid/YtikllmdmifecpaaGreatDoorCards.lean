/-
  DERIVED. GIVEN WITH THE SEED: THE CARDS: each row of YtikllmdmifecpaaGreatDoorRows.lean that lists a variable, with what it lists TIED to the program's text (the seventh form; the later family's looks); each row that meets fmt, with fmt's text TOLD by the authors' own Lean function (tested against real Go, not proved from fmt's source: count such statements apart). THE CARD IS WHAT COUNTS. Prove the row's statement (the work); the ties are given (YtikllmdmifecpaaGreatDoorTie.lean); close each card by the builder's one call (the guide's Derived/Test/ToyasCard.lean, 'card_holds'). Laid BY PROGRAM, IN A SANDBOX (cutbox-door.mjs). By AI agents, Wed Nov 11 2026. No macro, syntax, notation, axiom, sorry.
-/
import Derived.Test.YtikllmdmifecpaaGreatDoorRows
import GoSem.ClaimSeven
namespace Go.Proofs.YtikllmdmifecpaaGreatDoor
namespace Rows

/-- THE TIED CARD OF 'laws.FnExactSuperpose'. -/
def fnExactSuperposeCard : Claim7 := { stood := { row := fnExactSuperposeRow, standIns := [], harness := (true, "38fbb8e7aeb965d3695867082f8527f1c1f04db20083b9f5ee8a993a5416a525"), looks := false }, kinds := [], alts := [], laidByText := true, laidKinds := [.data], laidTests := true, laidLooks := .later }
def FnExactSuperposeCardSaid : Prop := Claim7.holds Tryz.pinned (.plain (OpenSpec.ofChange fnExactSuperposeSpec)) fnExactSuperposeCard

/-- THE TIED CARD OF 'laws.FnExactResolve'. -/
def fnExactResolveCard : Claim7 := { stood := { row := fnExactResolveRow, standIns := [], harness := (true, "38fbb8e7aeb965d3695867082f8527f1c1f04db20083b9f5ee8a993a5416a525"), looks := false }, kinds := [], alts := [], laidByText := true, laidKinds := [.data], laidTests := true, laidLooks := .later }
def FnExactResolveCardSaid : Prop := Claim7.holds Tryz.pinned (.plain (OpenSpec.ofChange fnExactResolveSpec)) fnExactResolveCard

/-- THE TIED CARD OF 'laws.FnExactFactor'. -/
def fnExactFactorCard : Claim7 := { stood := { row := fnExactFactorRow, standIns := [], harness := (true, "38fbb8e7aeb965d3695867082f8527f1c1f04db20083b9f5ee8a993a5416a525"), looks := false }, kinds := [], alts := [], laidByText := true, laidKinds := [.data], laidTests := true, laidLooks := .later }
def FnExactFactorCardSaid : Prop := Claim7.holds Tryz.pinned (.plain (OpenSpec.ofChange fnExactFactorSpec)) fnExactFactorCard

/-- THE TIED CARD OF 'laws.FnExactWaysInto'. -/
def fnExactWaysIntoCard : Claim7 := { stood := { row := fnExactWaysIntoRow, standIns := [], harness := (true, "38fbb8e7aeb965d3695867082f8527f1c1f04db20083b9f5ee8a993a5416a525"), looks := false }, kinds := [], alts := [], laidByText := true, laidKinds := [.data], laidTests := true, laidLooks := .later }
def FnExactWaysIntoCardSaid : Prop := Claim7.holds Tryz.pinned (.plain (OpenSpec.ofChange fnExactWaysIntoSpec)) fnExactWaysIntoCard

/-- THE TIED CARD OF 'laws.FnExactSingleWays'. -/
def fnExactSingleWaysCard : Claim7 := { stood := { row := fnExactSingleWaysRow, standIns := [], harness := (true, "38fbb8e7aeb965d3695867082f8527f1c1f04db20083b9f5ee8a993a5416a525"), looks := false }, kinds := [], alts := [], laidByText := true, laidKinds := [.data], laidTests := true, laidLooks := .later }
def FnExactSingleWaysCardSaid : Prop := Claim7.holds Tryz.pinned (.plain (OpenSpec.ofChange fnExactSingleWaysSpec)) fnExactSingleWaysCard

/-- THE TIED CARD OF 'laws.FnMaximal'. -/
def fnMaximalCard : Claim7 := { stood := { row := fnMaximalRow, standIns := [], harness := (true, "38fbb8e7aeb965d3695867082f8527f1c1f04db20083b9f5ee8a993a5416a525"), looks := false }, kinds := [], alts := [], laidByText := true, laidKinds := [.data], laidTests := true, laidLooks := .later }
def FnMaximalCardSaid : Prop := Claim7.holds Tryz.pinned (.plain (OpenSpec.ofChange fnMaximalSpec)) fnMaximalCard

/-- THE SECOND FORM's CARD OF 'laws.FnExactSuperpose'. -/
def fnExactSuperposeUptoCard : Claim7 := { stood := { row := fnExactSuperposeUptoRow, standIns := [], harness := (true, "38fbb8e7aeb965d3695867082f8527f1c1f04db20083b9f5ee8a993a5416a525"), looks := false }, kinds := [], alts := [], laidByText := true, laidKinds := [.data], laidTests := true, laidLooks := .later }
def FnExactSuperposeUptoCardSaid : Prop := Claim7.holds Tryz.pinned (.plain (OpenSpec.upto fnExactSuperposeSpec)) fnExactSuperposeUptoCard

/-- THE SECOND FORM's CARD OF 'laws.FnExactResolve'. -/
def fnExactResolveUptoCard : Claim7 := { stood := { row := fnExactResolveUptoRow, standIns := [], harness := (true, "38fbb8e7aeb965d3695867082f8527f1c1f04db20083b9f5ee8a993a5416a525"), looks := false }, kinds := [], alts := [], laidByText := true, laidKinds := [.data], laidTests := true, laidLooks := .later }
def FnExactResolveUptoCardSaid : Prop := Claim7.holds Tryz.pinned (.plain (OpenSpec.upto fnExactResolveSpec)) fnExactResolveUptoCard

/-- THE SECOND FORM's CARD OF 'laws.FnExactFactor'. -/
def fnExactFactorUptoCard : Claim7 := { stood := { row := fnExactFactorUptoRow, standIns := [], harness := (true, "38fbb8e7aeb965d3695867082f8527f1c1f04db20083b9f5ee8a993a5416a525"), looks := false }, kinds := [], alts := [], laidByText := true, laidKinds := [.data], laidTests := true, laidLooks := .later }
def FnExactFactorUptoCardSaid : Prop := Claim7.holds Tryz.pinned (.plain (OpenSpec.upto fnExactFactorSpec)) fnExactFactorUptoCard

/-- THE SECOND FORM's CARD OF 'laws.FnExactWaysInto'. -/
def fnExactWaysIntoUptoCard : Claim7 := { stood := { row := fnExactWaysIntoUptoRow, standIns := [], harness := (true, "38fbb8e7aeb965d3695867082f8527f1c1f04db20083b9f5ee8a993a5416a525"), looks := false }, kinds := [], alts := [], laidByText := true, laidKinds := [.data], laidTests := true, laidLooks := .later }
def FnExactWaysIntoUptoCardSaid : Prop := Claim7.holds Tryz.pinned (.plain (OpenSpec.upto fnExactWaysIntoSpec)) fnExactWaysIntoUptoCard

/-- THE SECOND FORM's CARD OF 'laws.FnExactSingleWays'. -/
def fnExactSingleWaysUptoCard : Claim7 := { stood := { row := fnExactSingleWaysUptoRow, standIns := [], harness := (true, "38fbb8e7aeb965d3695867082f8527f1c1f04db20083b9f5ee8a993a5416a525"), looks := false }, kinds := [], alts := [], laidByText := true, laidKinds := [.data], laidTests := true, laidLooks := .later }
def FnExactSingleWaysUptoCardSaid : Prop := Claim7.holds Tryz.pinned (.plain (OpenSpec.upto fnExactSingleWaysSpec)) fnExactSingleWaysUptoCard

/-- THE SECOND FORM's CARD OF 'laws.FnMaximal'. -/
def fnMaximalUptoCard : Claim7 := { stood := { row := fnMaximalUptoRow, standIns := [], harness := (true, "38fbb8e7aeb965d3695867082f8527f1c1f04db20083b9f5ee8a993a5416a525"), looks := false }, kinds := [], alts := [], laidByText := true, laidKinds := [.data], laidTests := true, laidLooks := .later }
def FnMaximalUptoCardSaid : Prop := Claim7.holds Tryz.pinned (.plain (OpenSpec.upto fnMaximalSpec)) fnMaximalUptoCard
end Rows
end Go.Proofs.YtikllmdmifecpaaGreatDoor
