/-
  The walk of the statements' own helper Same, at two lists of strings. Conditions: as each says.
-/
import Derived.Test.YtamghlneoglfnaaSpG
import Derived.Deep.QuietTactic
import Derived.BigQuiet
namespace Go.Proofs.Ytamghlneoglfnaa
open Go.RowKit

/-- the slice value's first n cells are xs, one cell each -/
def ListAt (w : World) (A : Option Addr) (n : Nat) (xs : List Value) : Prop :=
  xs.length = n ∧ (n = 0 ∨ ∃ b o, A = some ⟨b, o, none⟩ ∧ b < w.heap.size ∧ ∀ j u, xs[j]? = some u → w.cell? ⟨b, o + j, none⟩ = some u)

theorem bel_drewN (w : World) (n : Nat) : Bel w (w.drewN n) := by
  induction n with
  | zero => exact Below.refl _ _
  | succ n ih => exact Below.drew ih

def sameS (xs ys : List ByteArray) : Bool := decide (xs = ys)
theorem sameS_len (xs ys : List ByteArray) (h : xs.length ≠ ys.length) : sameS xs ys = false := decide_eq_false (fun e => h (by rw [e]))
theorem sameS_at (xs ys : List ByteArray) (k : Nat) (h1 : k < xs.length) (h2 : k < ys.length) (h : xs[k] ≠ ys[k]) : sameS xs ys = false :=
  decide_eq_false (fun e => by subst e; exact h rfl)
theorem sameS_all (xs ys : List ByteArray) (hl : xs.length = ys.length) (h : ∀ j, j < xs.length → xs[j]? = ys[j]?) : sameS xs ys = true :=
  decide_eq_true (by
    apply List.ext_getElem? ; intro j
    by_cases hj : j < xs.length
    · exact h j hj
    · rw [List.getElem?_eq_none (by omega), List.getElem?_eq_none (by omega)])

end Go.Proofs.Ytamghlneoglfnaa
