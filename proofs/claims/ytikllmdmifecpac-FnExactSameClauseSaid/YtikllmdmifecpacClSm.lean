/- Chapter 4, the reference: literals of the same terms. -/
import Derived.Test.YtikllmdmifecpacClS3
import Derived.Test.YtikllmdmifecpacSame
namespace Go.Proofs.Ytikllmdmifecpac
open Go.RowKit

theorem l1Same_w (l h l' h' : Nat) (v u : Value) (xs ys : List Int) (q : Bool) (w : World) (hq : decide (xs = ys) = q) (hx : xs.length ≤ 1048576) (hy : ys.length ≤ 1048576) (hv : SlI l h w v xs) (hu : SlI l' h' w u ys) :
    Calls Try.prog 28 #[v, u] w (RetV w (.bool q)) := by subst hq; exact l1Same_c l h l' h' v u xs ys w hx hy hv hu

end Go.Proofs.Ytikllmdmifecpac
