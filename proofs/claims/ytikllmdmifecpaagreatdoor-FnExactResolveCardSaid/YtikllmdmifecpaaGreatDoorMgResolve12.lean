/- Texts merged, part 12. -/
import Derived.Test.YtikllmdmifecpaaGreatDoorCards
import Derived.Test.YtikllmdmifecpaaGreatDoorTie
import Derived.OpenVars
import Derived.OpenShut
import Derived.ProofKit
import Derived.Deep.DeepHandedRow
import Derived.Lib.LaidTab
import Derived.Test.YtikllmdmifecpaaGreatDoorMgResolve11
section
/- The door: what the listed table gives, and a world for the witness. -/
namespace Go.Proofs.YtikllmdmifecpaaGreatDoor
open Go.ChangeShapes Go.WideShapes Go.ChangeAt Go.RowKit

theorem tab_of_laid {W : World} (h : laidMetH Tryz.prog [("loop.example/g00682/impl.weights", Rows.laid_loop_example_g00682_impl_weights)] W) : Tab W := by
  have g1 : Tryz.prog.globalNamed "loop.example/g00682/impl.weights" = some 0 := by kernel_rfl
  have g2 : (Tryz.prog.globals[0]?).map (·.type) = some 216 := by kernel_rfl
  have g3 : Tryz.prog.cellsOf 216 = 2 := by kernel_rfl
  have g4 : Tryz.prog.cellsOf 3 = 1 := by kernel_rfl
  have ht : Lib.TabIs Tryz.prog W "loop.example/g00682/impl.weights" .i64 [1, 1] := Lib.tabIs_of_head (rest := []) g1 g2 Tryz.underlying216 Tryz.underlying3 g4 g3 h
  exact ⟨ht.cell g1 0 (by decide), ht.cell g1 1 (by decide)⟩

/-- A world for the witness: the settled one, the table as its text lays it. -/
noncomputable def laidWorld (os : Os) : World :=
  { World.holding Tryz.prog os ⟨#[], #[], []⟩ with heap := (World.holding Tryz.prog os ⟨#[], #[], []⟩).heap.modify 0 fun
      | .cells _ t frozen => .cells #[.int .i64 1, .int .i64 1] t frozen
      | o => o }
theorem laid_met (os : Os) (args : Array Value) : laidMet Tryz.prog [("loop.example/g00682/impl.weights", Rows.laid_loop_example_g00682_impl_weights)] ((laidWorld os).forCall (fun _ _ => 0) ⟨#[], args, []⟩).memory :=
  laidMet_of_run' 8 (by kernel_rfl) (by kernel_rfl)
end Go.Proofs.YtikllmdmifecpaaGreatDoor
end
