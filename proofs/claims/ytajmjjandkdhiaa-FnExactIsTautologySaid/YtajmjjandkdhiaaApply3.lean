/- Apply, IsUnifier: both functions. -/
import Derived.Test.YtajmjjandkdhiaaApply2
import Derived.Test.YtajmjjandkdhiaaSame
namespace Go.Proofs.Ytajmjjandkdhiaa
open Go.RowKit

def unifAns (ar : List Int) (b : List (List Int)) (t r : List Int) : Bool := applyOk ar b t && applyOk ar b r && decide (applyAns ar b t = applyAns ar b r)

end Go.Proofs.Ytajmjjandkdhiaa
