import Derived.Test.YtoheedmjakfklaaDepth
import Derived.Laws.BytesString
namespace Go.Proofs.Ytoheedmjakfklaa
open Go.RowKit
theorem conv1 (W : World) (m : Nat) (n : Int) (hm : m = W.heap.size) :
    (convert 22 9 (.slice (some ⟨m, 0, none⟩) 1 1)).run Try.prog (W.alloc (.cells #[.int .u8 n] 5)) = .ok (.string ⟨#[UInt8.ofNat n.toNat]⟩) (W.alloc (.cells #[.int .u8 n] 5)) := by
  subst hm
  rw [run_convert_bytes_string _ 22 9 5 _ _ _ Try.underlying22 Try.underlying5 Try.underlying9]
  rw [run_bytesToString _ _ 1 1 [n] ?_]
  · rfl
  · simp [loadCells, go_sem]
end Go.Proofs.Ytoheedmjakfklaa
