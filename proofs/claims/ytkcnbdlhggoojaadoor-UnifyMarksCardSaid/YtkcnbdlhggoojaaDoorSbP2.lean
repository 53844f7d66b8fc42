/-
  The law SubstParts for every input. Conditions: what came in lies as its parameters' types say.
-/
import Derived.Test.YtkcnbdlhggoojaaDoorSbP1
namespace Go.Proofs.YtkcnbdlhggoojaaDoor
open Go.RowKit

theorem wrap_small (n : Nat) (h : n ≤ 1000) : IntKind.i64.wrap (n : Int) = n := by
  have h2 := wrap_i64_ediv (n : Int) 1 (by omega) (by omega) (by omega)
  rwa [Int.ediv_one] at h2
end Go.Proofs.YtkcnbdlhggoojaaDoor
