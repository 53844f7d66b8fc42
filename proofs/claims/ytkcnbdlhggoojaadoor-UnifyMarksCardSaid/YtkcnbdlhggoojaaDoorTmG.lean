/-
  The project's check of an atom. Conditions: its strings fit; the library's variable holds some int.
-/
import Derived.Test.YtkcnbdlhggoojaaDoorTmE
import Derived.Deep.RegionHeld
namespace Go.Proofs.YtkcnbdlhggoojaaDoor
open Go.RowKit

theorem eqA_stored (a : AtomD) (k : Nat) (hk : k ≤ 4) (hn : a.n = k) : eqA a (storedD a.says a.pred ((argsD a).take k)) = zerosB ((argsD a).drop k) := by
  have hr : ∀ s : ByteArray, (s == s) = true := fun s => (ba_eq s s).2 rfl
  have ht : ∀ t : TermD, eqT t t = true := fun t => (eqT_iff t t).2 rfl
  obtain rfl | rfl | rfl | rfl | rfl : k = 0 ∨ k = 1 ∨ k = 2 ∨ k = 3 ∨ k = 4 := by omega
  all_goals simp [eqA, storedD, argsD, zerosB, hr, ht, hn]

end Go.Proofs.YtkcnbdlhggoojaaDoor
