/-
  Lists of terms in memory: which of them are valid. Conditions: as each says.
-/
import Derived.Test.YtkcnbdlhggoojaaDoorTmC
import Derived.Handy
namespace Go.Proofs.YtkcnbdlhggoojaaDoor
open Go.RowKit

/-- the terms of a slice value -/
def TermsAt (w : World) (A : Option Addr) (l : List TermD) : Prop := ∀ j (h : j < l.length), ∃ b o, A = some ⟨b, o, none⟩ ∧ b < w.heap.size ∧ w.cell? ⟨b, o + j * 2, none⟩ = some (.bool l[j].v) ∧ w.cell? ⟨b, o + j * 2 + 1, none⟩ = some (.string l[j].name)
theorem TermsAt.get {w : World} {A : Option Addr} {l : List TermD} (h : TermsAt w A l) (h0 : 0 < l.length) : ∃ b o, A = some ⟨b, o, none⟩ ∧ b < w.heap.size ∧ ∀ j (h : j < l.length), w.cell? ⟨b, o + j * 2, none⟩ = some (.bool l[j].v) ∧ w.cell? ⟨b, o + j * 2 + 1, none⟩ = some (.string l[j].name) := by
  obtain ⟨b, o, rfl, hb, _⟩ := h 0 h0
  refine ⟨b, o, rfl, hb, fun j hj => ?_⟩
  obtain ⟨b', o', e, _, hc⟩ := h j hj
  injection e with e
  injection e with e1 e2
  subst e1 e2
  exact hc
theorem TermsAt.bel {w w' : World} {A : Option Addr} {l : List TermD} (h : TermsAt w A l) (hg : Bel w w') : TermsAt w' A l := fun j hj => by
  obtain ⟨b, o, e, hb, h1, h2⟩ := h j hj
  exact ⟨b, o, e, Nat.lt_of_lt_of_le hb hg.size, cell_later hg h1, cell_later hg h2⟩
theorem TermsAt.take {w : World} {A : Option Addr} {l : List TermD} (h : TermsAt w A l) (k : Nat) : TermsAt w A (l.take k) := fun j hj => by
  have hj' : j < l.length := by rw [List.length_take] at hj; omega
  obtain ⟨b, o, e, hb, h1, h2⟩ := h j hj'
  exact ⟨b, o, e, hb, by rw [h1]; simp, by rw [h2]; simp⟩
theorem TermsAt.nil (w : World) (A : Option Addr) : TermsAt w A [] := fun j hj => by simp at hj
theorem AtomAt.terms {w : World} {b : Nat} {a : AtomD} (h : AtomAt w b a) : TermsAt w (some ⟨b, 3, none⟩) (argsD a) := fun j hj => by
  obtain ⟨_, _, _, c3, c4, c5, c6, c7, c8, c9, c10⟩ := h.cells
  refine ⟨b, 3, rfl, h.lt, ?_⟩
  match j, hj with
  | 0, _ => exact ⟨c3, c4⟩
  | 1, _ => exact ⟨c5, c6⟩
  | 2, _ => exact ⟨c7, c8⟩
  | 3, _ => exact ⟨c9, c10⟩

end Go.Proofs.YtkcnbdlhggoojaaDoor
