/-
  The reference's names of an atom's terms. Conditions: as each says.
-/
import Derived.Test.YtkcnbdlhggoojaaTmJ
namespace Go.Proofs.Ytkcnbdlhggoojaa
open Go.RowKit

theorem step_mem (v : Bool) (out : List ByteArray) (t : TermD) (s : ByteArray) : s ∈ stepN v out t ↔ s ∈ out ∨ (t.v = v ∧ t.name = s) := by
  unfold stepN
  by_cases h : (t.v == v && !Lib.containsS out t.name) = true
  · rw [if_pos h]
    simp only [Bool.and_eq_true, beq_iff_eq] at h
    simp only [List.mem_append, List.mem_singleton]
    constructor
    · rintro (h1 | h1)
      · exact .inl h1
      · exact .inr ⟨h.1, h1.symm⟩
    · rintro (h1 | ⟨_, h1⟩)
      · exact .inl h1
      · exact .inr h1.symm
  · rw [if_neg h]
    constructor
    · exact .inl
    · rintro (h1 | ⟨h1, rfl⟩)
      · exact h1
      · simp only [h1, beq_self_eq_true, Bool.true_and, Bool.not_eq_true', Bool.not_eq_false] at h
        exact (Lib.containsS_iff _ _).1 h
theorem names_mem (v : Bool) (l : List TermD) (s : ByteArray) : s ∈ namesD v l ↔ ∃ t ∈ l, t.v = v ∧ t.name = s := by
  unfold namesD
  suffices h : ∀ (l : List TermD) (acc : List ByteArray), s ∈ l.foldl (stepN v) acc ↔ s ∈ acc ∨ ∃ t ∈ l, t.v = v ∧ t.name = s by simpa using h l []
  intro l
  induction l with
  | nil => intro acc; simp
  | cons t l ih =>
    intro acc
    rw [List.foldl_cons, ih, step_mem]
    simp only [List.mem_cons, exists_eq_or_imp]
    rw [or_assoc]
theorem contains_names (v : Bool) (l : List TermD) (s : ByteArray) : Lib.containsS (namesD v l) s = l.any (fun t => eqT t ⟨v, s⟩) := by
  rw [Bool.eq_iff_iff, Lib.containsS_iff, names_mem, List.any_eq_true]
  constructor
  · rintro ⟨t, h1, h2, h3⟩
    exact ⟨t, h1, (eqT_iff _ _).2 (TermD.ext' h2 h3)⟩
  · rintro ⟨t, h1, h2⟩
    have := (eqT_iff _ _).1 h2
    subst this
    exact ⟨_, h1, rfl, rfl⟩

end Go.Proofs.Ytkcnbdlhggoojaa
