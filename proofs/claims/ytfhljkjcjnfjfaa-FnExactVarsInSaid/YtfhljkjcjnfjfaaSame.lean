/- Slices of ints compared: three functions of one shape. -/
import Derived.Test.YtfhljkjcjnfjfaaLaw1
namespace Go.Proofs.Ytfhljkjcjnfjfaa
open Go.RowKit

end Go.Proofs.Ytfhljkjcjnfjfaa
