/-
  Lists of terms that a call writes out; a term's block; constants, variables and the names of an atom. Condition: the library's variable holds some int, where one says so.
-/
import Derived.Test.YtkcnbdlhggoojaaTmF
import Derived.Test.YtkcnbdlhggoojaaTmK
import Derived.Test.YtkcnbdlhggoojaaTmI
namespace Go.Proofs.Ytkcnbdlhggoojaa
open Go.RowKit

theorem TermsAt.lit (W : World) (l : List TermD) (hl : l.length ≤ 1000) : TermsAt (W.alloc (.cells (termCells l).toArray 23)) (some ⟨W.heap.size, 0, none⟩) l :=
  TermsAt.of_row (base := 0) (ca := l.length) (World.ownsRow_lit W (termCells l).toArray l.length (Nat.zero_le _) (by unfold maxLen; omega) (by simp [termCells_len]))
/-- block b is the term t -/
def TermAt (w : World) (b : Nat) (t : TermD) : Prop := w.heap[b]? = some (.cells #[.bool t.v, .string t.name] 23)
theorem TermAt.new (w : World) (t : TermD) : TermAt (w.alloc (.cells #[.bool t.v, .string t.name] 23)) w.heap.size t := heap_alloc_new _ _
theorem TermAt.bel {w w' : World} {b : Nat} {t : TermD} (h : TermAt w b t) (hg : Bel w w') : TermAt w' b t := (hg.block b (Array.getElem?_eq_some_iff.1 h).1).trans h
theorem TermAt.cells {w : World} {b : Nat} {t : TermD} (h : TermAt w b t) : w.cell? ⟨b, 0, none⟩ = some (.bool t.v) ∧ w.cell? ⟨b, 1, none⟩ = some (.string t.name) := by
  unfold TermAt at h
  refine ⟨?_, ?_⟩ <;> simp [World.cell?, h]
theorem str_same {a b : ByteArray} (h : a = b) : (a.toList == b.toList) = true := by rw [h]; simp
theorem str_is {a b : ByteArray} (l : List UInt8) (h : a = b) (hl : b = ⟨l.toArray⟩) : (a.toList == l) = true := by
  subst hl; subst h
  rw [ByteArray.toList_eq]; simp
set_option maxHeartbeats 400000 in
theorem c_any (s : ByteArray) (w : World) : Calls Try.prog 16 #[.string s] w fun e w' => e = .returned (.agg #[.bool false, .string s]) ∧ Bel w w' := by
  go_enter Try.func16, Try.ntmps16
  go_wp2
  try simp only [Exit.inBlock, Exit.then]
  refine bodyPost_ret (results_cell_row rfl _ _ w.heap.size 23 #[.bool false, .string s] (0, 0) _ rfl (heap_alloc_new _ _) Try.underlying23 rfl (by kernel_rfl)) rfl ?_
  exact ⟨rfl, bel_alloc _ _⟩
end Go.Proofs.Ytkcnbdlhggoojaa
