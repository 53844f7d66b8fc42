/-
  The law InternScript for every input. Condition: what came in lies as its parameter's type says.
-/
import Derived.Test.YtobelhfhciafcaaInZ1
import Derived.Test.YtobelhfhciafcaaOpenA
namespace Go.Proofs.Ytobelhfhciafcaa
open Go.RowKit
theorem script_law (A : Option Addr) (l : List ActD) (ca : Nat) (w : World) (hA : ActsAt w A l) (hok : ∀ a ∈ l, ActOk a) (hl : l.length ≤ 9223372036854775807) :
    Calls Try.prog 3 #[.slice A l.length ca] w fun e w' => e = .returned (.bool true) ∧ Below w.heap.size w w' := by
  rcases Bool.eq_false_or_eq_true (lightB l) with h | h
  · have h80 : l.length ≤ 80 := by
      unfold lightB at h
      rw [Bool.and_eq_true, decide_eq_true_eq] at h
      exact h.2
    exact script_yes A l ca w hA hok h h80
  · exact script_no A l ca w hA hl hok h
end Go.Proofs.Ytobelhfhciafcaa
