/-
  The making of atoms out of lists: the project's and the reference's; a list copied. Conditions: as each says.
-/
import Derived.Test.YtkcnbdlhggoojaaDoorTmG
import Derived.Test.YtkcnbdlhggoojaaDoorOwA
import Derived.Laws.AppendOwnNone
namespace Go.Proofs.YtkcnbdlhggoojaaDoor
open Go.RowKit

theorem termCells_get : ∀ (l : List TermD) (j : Nat) (h : j < l.length), (termCells l)[j * 2]? = some (.bool l[j].v) ∧ (termCells l)[j * 2 + 1]? = some (.string l[j].name)
  | [], j, h => by simp at h
  | x :: l, 0, _ => ⟨rfl, rfl⟩
  | x :: l, j + 1, h => by
    have := termCells_get l j (by simpa using h)
    rw [show (j + 1) * 2 = j * 2 + 2 by omega, show j * 2 + 2 + 1 = (j * 2 + 1) + 2 by omega]
    simpa [termCells] using this
theorem TermsAt.of_row {w : World} {base ca n : Nat} {A : Option Addr} {l : List TermD} (h : w.ownsRow base 27 2 (.slice A n ca) n (termCells l)) : TermsAt w A l := fun j hj => by
  have hn : n = l.length := by have := h.1; rw [termCells_len] at this; omega
  obtain ⟨g, cap, e, ho, hlt, _, _⟩ := row_value h (by omega)
  injection e with e1 e2 e3
  subst e1
  refine ⟨g, 0, rfl, hlt, ?_, ?_⟩
  · rw [Nat.zero_add]; exact row_cell h ho (termCells_get l j hj).1
  · rw [Nat.zero_add]; exact row_cell h ho (termCells_get l j hj).2
theorem ret_slice {A : Option Addr} {a b c : Nat} (h : a = b) : Ending.returned (.slice A a c) = .returned (.slice A b c) := by rw [h]
theorem info_parts2 : ∃ i, Tryd.prog.info? 27 = some i ∧ i.zero = some (.agg #[.bool false, .string ⟨#[]⟩]) ∧ i.size = 2 ∧ i.bytes = 24 := by
  have h : (Tryd.prog.info? 27).map (fun i => (i.zero, i.size, i.bytes)) = some (some (.agg #[.bool false, .string ⟨#[]⟩]), 2, 24) := by kernel_rfl
  cases hq : Tryd.prog.info? 27 with
  | none => rw [hq] at h; cases h
  | some i =>
    rw [hq] at h
    injection h with h
    injection h with h1 h2
    injection h2 with h2 h3
    exact ⟨i, rfl, h1, h2, h3⟩

def zeroA : AtomD := ⟨⟨#[]⟩, ⟨#[]⟩, 0, zeroT, zeroT, zeroT, zeroT⟩
def madeD (s p : ByteArray) (l : List TermD) : AtomD × Int :=
  if 4 < l.length then (zeroA, 4) else if checkD (storedD s p l) = 0 then (storedD s p l, 0) else (zeroA, checkD (storedD s p l))
theorem made_long {s p : ByteArray} {l : List TermD} (h : 4 < l.length) : madeD s p l = (zeroA, 4) := by unfold madeD; rw [if_pos h]
theorem made_ok {s p : ByteArray} {l : List TermD} (h : ¬ 4 < l.length) (h2 : checkD (storedD s p l) = 0) : madeD s p l = (storedD s p l, 0) := by unfold madeD; rw [if_neg h, if_pos h2]
theorem made_bad {s p : ByteArray} {l : List TermD} (h : ¬ 4 < l.length) (h2 : checkD (storedD s p l) ≠ 0) : madeD s p l = (zeroA, checkD (storedD s p l)) := by unfold madeD; rw [if_neg h, if_neg h2]
theorem storedD_ok {s p : ByteArray} {l : List TermD} (hs : s.size ≤ 9223372036854775807) (hp : p.size ≤ 9223372036854775807) (hl : l.length ≤ 4) (h : ∀ t ∈ l, t.name.size ≤ 9223372036854775807) : AtomOk (storedD s p l) := by
  have hg : ∀ j, (l.getD j zeroT).name.size ≤ 9223372036854775807 := fun j => by
    rw [List.getD_eq_getElem?_getD]
    cases hj : l[j]? with
    | none => show zeroT.name.size ≤ _; decide
    | some t => exact h t (List.mem_of_getElem? hj)
  exact ⟨hs, hp, by unfold storedD; simp only; omega, hg 0, hg 1, hg 2, hg 3⟩
theorem storedD_len {s p : ByteArray} {l : List TermD} : (storedD s p l).n = l.length := rfl

end Go.Proofs.YtkcnbdlhggoojaaDoor
