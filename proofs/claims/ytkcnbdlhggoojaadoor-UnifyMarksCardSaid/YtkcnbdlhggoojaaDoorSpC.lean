/-
  The walks of package spell's words: Words, Reserved, and the names that are not reserved. Condition: internal/bytealg.MaxLen holds some int.
-/
import Derived.Test.YtkcnbdlhggoojaaDoorSpB
import Derived.Lib.SlicesS
namespace Go.Proofs.YtkcnbdlhggoojaaDoor
open Go.RowKit

/-- the reserved words, in order -/
def wordsL : List ByteArray := [⟨#[115, 97, 121, 115]⟩, ⟨#[105, 102]⟩, ⟨#[99, 97, 110, 115, 97, 121]⟩, ⟨#[112, 114, 105, 110, 99, 105, 112, 97, 108]⟩, ⟨#[112, 114, 101, 100]⟩, ⟨#[99, 108, 101, 97, 114]⟩, ⟨#[113, 117, 111, 116, 97]⟩, ⟨#[98, 117, 100, 103, 101, 116]⟩]
def resB (s : ByteArray) : Bool := Lib.containsS wordsL s
/-- the world behind Words -/
def wordsW (w : World) : World := w.alloc (.cells (wordsL.map Value.string).toArray 9)
/-- some int at MaxLen's cell -/
def MaxAt (w : World) : Prop := ∃ m : Int, w.cell? ⟨0, 0, none⟩ = some (.int .i64 m)

theorem words_cells (w : World) : ∀ j, j < wordsL.length → (wordsW w).cell? ⟨w.heap.size, 0 + j, none⟩ = some (.string (wordsL.getD j ByteArray.empty)) := by
  intro j hj
  unfold wordsW
  rw [cell_of_row _ _ _ _ _ _ (heap_alloc_new _ _)]
  have : j < 8 := hj
  match j, this with
  | 0, _ => rfl | 1, _ => rfl | 2, _ => rfl | 3, _ => rfl | 4, _ => rfl | 5, _ => rfl | 6, _ => rfl | 7, _ => rfl

def wordB (s : ByteArray) : Bool := nameB lowB false s.data.toList
def prinB (s : ByteArray) : Bool := wordB s && !resB s
def consB (s : ByteArray) : Bool := nameB smaB false s.data.toList && !resB s
def variB (s : ByteArray) : Bool := nameB uppB true s.data.toList

theorem MaxAt.bel {w w' : World} (h : MaxAt w) (hg : Bel w w') : MaxAt w' := by
  obtain ⟨m, hm⟩ := h
  exact ⟨m, cell_later hg hm⟩

end Go.Proofs.YtkcnbdlhggoojaaDoor
