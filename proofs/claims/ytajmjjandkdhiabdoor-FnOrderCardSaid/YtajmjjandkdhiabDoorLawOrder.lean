/- FnOrder: the law's walk, from its parts. -/
import Derived.Test.YtajmjjandkdhiabDoorMgOrder11
namespace Go.Proofs.YtajmjjandkdhiabDoor
open Go.RowKit

set_option maxRecDepth 100000 in
set_option maxHeartbeats 4000000 in
theorem lawOrder (w : World) (hT : Tab w) (v0 : Value) (n0 : Nat) (hn0 : n0 ≤ 9223372036854775807) (hv0 : SlB w.heap.size w v0 n0) (v1 : Value) (n1 : Nat) (_hn1 : n1 ≤ 9223372036854775807) (hv1 : SlB w.heap.size w v1 n1) :
    Calls Tryd.prog 3 #[v0, v1] w (RetV w (.bool true)) := by
  obtain ⟨ca, cc, rfl⟩ := hv0.formo
  obtain ⟨ma, mc, rfl⟩ := hv1.formo
  by_cases hbig : n0 ≤ 1048576 ∧ n0 + n1 ≤ 1048576
  · have h1 : (ordA w hT n0 n1 ca cc ma mc hv0 hv1 hbig).1.1 := (ordB w hT n0 n1 ca cc ma mc hv0 hv1 hbig).2 (Lib.hid ((ordBb w hT n0 n1 ca cc ma mc hv0 hv1 hbig).2 (Lib.hid ((ordB2 w hT n0 n1 ca cc ma mc hv0 hv1 hbig).2 (Lib.hid ((ordB2b w hT n0 n1 ca cc ma mc hv0 hv1 hbig).2 (Lib.hid (ordB3 w hT n0 n1 ca cc ma mc hv0 hv1 hbig))))))))
    have h2 : (ordA w hT n0 n1 ca cc ma mc hv0 hv1 hbig).1.2 := (ordC w hT n0 n1 ca cc ma mc hv0 hv1 hbig).2 (Lib.hid ((ordC2 w hT n0 n1 ca cc ma mc hv0 hv1 hbig).2 (Lib.hid (ordC3 w hT n0 n1 ca cc ma mc hv0 hv1 hbig))))
    exact (ordA w hT n0 n1 ca cc ma mc hv0 hv1 hbig).2 (Lib.hid h1) (Lib.hid h2)
  · go_enter Tryd.func3, Tryd.ntmps3
    go_wp2_with fail
    refine (big_yes n0 n1 _ _ _ _ _ hn0 hbig).mono ?_; rintro e w1 ⟨rfl, hb1⟩
    go_wp2_with fail
    go_ret
    exact ⟨rfl, hb1⟩
end Go.Proofs.YtajmjjandkdhiabDoor
