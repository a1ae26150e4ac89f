/- Apply, IsUnifier: both functions. -/
import Derived.Test.YtnldienjkejfcaaApply2
import Derived.Test.YtnldienjkejfcaaSame
namespace Go.Proofs.Ytnldienjkejfcaa
open Go.RowKit

def unifAns (ar : List Int) (b : List (List Int)) (t r : List Int) : Bool := applyOk ar b t && applyOk ar b r && decide (applyAns ar b t = applyAns ar b r)

end Go.Proofs.Ytnldienjkejfcaa
