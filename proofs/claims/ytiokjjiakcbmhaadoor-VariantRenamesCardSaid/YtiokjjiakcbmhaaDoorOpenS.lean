/-
  Lists of texts that came in, opened. No condition.
-/
import Derived.Test.YtiokjjiakcbmhaaDoorOpenB
import Derived.Test.YtiokjjiakcbmhaaDoorSgF
namespace Go.Proofs.YtiokjjiakcbmhaaDoor
open Go.RowKit Go.WideShapes Go.ChangeShapes Go.ChangeAt

section
variable {H : Type} {enc : TypeId × Value → H} {W : World} {base : Nat}
set_option maxRecDepth 100000 in
theorem texts_open {v : Value} {d : DataW H} {ps : List MemPlace} (hv : Value.okWide Tryd.prog W .any base 37 v) (h : DataW.Trod enc Tryd.prog W 0 (fun _ => true) true 37 v d ps) :
    ∃ (A : Option Addr) (ca : Nat) (xs : List ByteArray), v = .slice A xs.length ca ∧ SL W A ca xs ∧ (∀ x ∈ xs, x.size ≤ 9223372036854775807) ∧ xs.length ≤ 9223372036854775807 := by
  obtain ⟨A, n, ca, rfl⟩ := okWide_slice Tryd.underlying37 hv
  obtain ⟨fuel, hf⟩ := h
  rcases Go.Deep.open_slice Tryd.underlying37 hf with ⟨hcs, _⟩ | ⟨a, len, cap, m, n', D, Pl, hcs, _, hl, hm, hmm, _, hi⟩
  · simp [Value.cells] at hcs
    obtain ⟨rfl, rfl, rfl⟩ := hcs
    exact ⟨none, 0, [], rfl, SliceAt.mkNil W, fun s hs => by simp at hs, by simp⟩
  · simp [Value.cells] at hcs
    obtain ⟨rfl, rfl, rfl⟩ := hcs
    rw [if_pos rfl] at hmm
    subst hmm
    have each : ∀ i, i < m → ∃ s : ByteArray, s.size ≤ 9223372036854775807 ∧ W.cell? (a.add i) = some (.string s) := fun i him => by
      obtain ⟨cs, hc, ht⟩ := hi i him
      rw [cells_tstr] at hc
      obtain ⟨_, hcl, hat⟩ := World.cells?_some hc
      match cs, hcl with
      | [v0], _ =>
        obtain ⟨s, e0, _, w0⟩ := DataW.trod_string Tryd.underlying9 ht
        refine ⟨s, by unfold maxLen at w0; exact w0, ?_⟩
        have := hat 0 (by omega)
        rw [Go.Deep.add_add] at this
        simp at e0 this
        subst e0
        simpa using this
    have hex : ∃ f : Nat → ByteArray, ∀ i, i < m → (f i).size ≤ 9223372036854775807 ∧ W.cell? (a.add i) = some (.string (f i)) :=
      ⟨fun i => if h : i < m then (each i h).choose else ⟨#[]⟩, fun i h => by simp only [dif_pos h]; exact (each i h).choose_spec⟩
    obtain ⟨f, hfi⟩ := hex
    have hspot : 0 < m → a = ⟨a.block, a.off, none⟩ := fun h0 => addT_cell (by simpa using (hfi 0 h0).2)
    refine ⟨some a, m, (List.range n).map f, by simp, ⟨fun j hj => ?_, by simpa using hl, (fun h => by cases h), fun a' e h0 => ?_⟩, fun x hx => ?_, by simp; unfold maxLen at hm; omega⟩
    · have hjn : j < n := by simpa using hj
      obtain ⟨_, c0⟩ := hfi j (by omega)
      have e1 := hspot (by omega)
      have ha : ∀ i, a.add i = ⟨a.block, a.off + i, none⟩ := fun i => by
        conv => lhs; rw [e1]
        exact addr_add _ _ _
      rw [ha] at c0
      have hlt : a.block < W.heap.size := World.block_lt_of_cell? W (⟨a.block, a.off + j, none⟩ : Addr) c0
      refine ⟨a.block, a.off, by rw [← e1], hlt, fun i u hu => ?_⟩
      have hget : ((List.range n).map f)[j] = f j := by simp
      rw [hget] at hu
      match i, hu with
      | 0, hu => simp [encS] at hu; rw [← hu, Nat.mul_one, Nat.add_zero]; exact c0
      | k + 1, hu => simp [encS] at hu
    · injection e with e
      subst e
      exact ⟨_, _, hspot h0⟩
    · obtain ⟨j, hj, rfl⟩ := List.mem_map.1 hx
      exact (hfi j (by have := List.mem_range.1 hj; omega)).1
end
end Go.Proofs.YtiokjjiakcbmhaaDoor
