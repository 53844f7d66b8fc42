/-
  Whether an atom is ground. Conditions: as each says.
-/
import Derived.Test.YtkcnbdlhggoojaaDoorTmF
namespace Go.Proofs.YtkcnbdlhggoojaaDoor
open Go.RowKit

theorem ground_eq (a : AtomD) : groundD a = !(((argsD a).take (cntI a.n)).any (fun t => t.v)) := by
  unfold groundD cntD
  rw [List.not_any_eq_all_not]
end Go.Proofs.YtkcnbdlhggoojaaDoor
