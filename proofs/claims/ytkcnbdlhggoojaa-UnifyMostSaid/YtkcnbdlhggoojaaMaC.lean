/-
  The walks of package match's helpers: whether two atoms are alike, whether a pattern's variables can be bound. Conditions: as each says.
-/
import Derived.Test.YtkcnbdlhggoojaaMaA
import Derived.Test.YtkcnbdlhggoojaaSgD
import Derived.Test.YtkcnbdlhggoojaaTmMa
namespace Go.Proofs.Ytkcnbdlhggoojaa
open Go.RowKit

end Go.Proofs.Ytkcnbdlhggoojaa
