/- Slices of ints compared: three functions of one shape. -/
import Derived.Test.YtnldienjkejfcaaLaw1
namespace Go.Proofs.Ytnldienjkejfcaa
open Go.RowKit

end Go.Proofs.Ytnldienjkejfcaa
