/- Apply, IsUnifier: both functions. -/
import Derived.Test.YtikllmdmifecpacApply2
import Derived.Test.YtikllmdmifecpacSame
namespace Go.Proofs.Ytikllmdmifecpac
open Go.RowKit

def unifAns (ar : List Int) (b : List (List Int)) (t r : List Int) : Bool := applyOk ar b t && applyOk ar b r && decide (applyAns ar b t = applyAns ar b r)

end Go.Proofs.Ytikllmdmifecpac
