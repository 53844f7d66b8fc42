/-
  Bindings, terms, atoms and strings that came in, opened. No condition.
-/
import Derived.Test.YtiokjjiakcbmhaaDoorOpenT
import Derived.Test.YtiokjjiakcbmhaaDoorSgG
import Derived.SliceStrings
namespace Go.Proofs.YtiokjjiakcbmhaaDoor
open Go.RowKit Go.WideShapes Go.ChangeShapes Go.ChangeAt

theorem cells_B : Tryd.prog.cellsOf 43 = 3 := by kernel_rfl
section
variable {H : Type} {enc : TypeId × Value → H} {W : World} {base : Nat} {sp : Nat → Bool} {held : Bool} {fuel : Nat}
theorem bind_three {c0 c1 c2 : Value} {x : DataW H × List MemPlace} (h : DataW.trod enc Tryd.prog W base sp held fuel 43 [c0, c1, c2] = some x) :
    ∃ b : BindD, c0 = .string b.v ∧ c1 = .bool b.t.v ∧ c2 = .string b.t.name ∧ b.v.size ≤ 9223372036854775807 ∧ b.t.name.size ≤ 9223372036854775807 := by
  obtain ⟨ys, n2, _, _, _, hyl, hfd⟩ := DataW.trod_struct Tryd.underlying43 h
  have hyl2 : ys.length = 2 := hyl
  match ys, hyl2 with
  | [y0, y1], _ =>
    have h0 := hfd 0 _ rfl
    have h1 := hfd 1 _ rfl
    obtain ⟨s, e0, _, w0⟩ := DataW.trod_string Tryd.underlying9 h0
    simp [cells_tstr] at e0
    simp [cells_tstr, cells_Term] at h1
    obtain ⟨t, e1, e2, w1⟩ := term_two h1
    exact ⟨⟨s, t⟩, e0, e1, e2, by unfold maxLen at w0; exact w0, w1⟩
set_option maxRecDepth 100000 in
theorem binds_open {v : Value} {d : DataW H} {ps : List MemPlace} (hv : Value.okWide Tryd.prog W .any base 40 v) (h : DataW.Trod enc Tryd.prog W 0 (fun _ => true) true 40 v d ps) :
    ∃ (A : Option Addr) (ca : Nat) (xs : List BindD), v = .slice A xs.length ca ∧ BL W A ca xs ∧ BindsOk xs ∧ xs.length ≤ 9223372036854775807 := by
  obtain ⟨A, n, ca, rfl⟩ := okWide_slice Tryd.underlying40 hv
  obtain ⟨fuel, hf⟩ := h
  rcases Go.Deep.open_slice Tryd.underlying40 hf with ⟨hcs, _⟩ | ⟨a, len, cap, m, n', D, Pl, hcs, _, hl, hm, hmm, _, hi⟩
  · simp [Value.cells] at hcs
    obtain ⟨rfl, rfl, rfl⟩ := hcs
    exact ⟨none, 0, [], rfl, SliceAt.mkNil W, fun s hs => by simp at hs, by simp⟩
  · simp [Value.cells] at hcs
    obtain ⟨rfl, rfl, rfl⟩ := hcs
    rw [if_pos rfl] at hmm
    subst hmm
    have each : ∀ i, i < m → ∃ b : BindD, (b.v.size ≤ 9223372036854775807 ∧ b.t.name.size ≤ 9223372036854775807) ∧ W.cell? (a.add (i * 3)) = some (.string b.v) ∧ W.cell? (a.add (i * 3 + 1)) = some (.bool b.t.v) ∧ W.cell? (a.add (i * 3 + 2)) = some (.string b.t.name) := fun i him => by
      obtain ⟨cs, hc, ht⟩ := hi i him
      rw [cells_B] at hc
      obtain ⟨_, hcl, hat⟩ := World.cells?_some hc
      match cs, hcl with
      | [v0, v1, v2], _ =>
        obtain ⟨b, rfl, rfl, rfl, z1, z2⟩ := bind_three ht
        refine ⟨b, ⟨z1, z2⟩, ?_, ?_, ?_⟩
        · have := hat 0 (by omega); rw [Go.Deep.add_add] at this; simpa using this
        · have := hat 1 (by omega); rw [Go.Deep.add_add] at this; simpa using this
        · have := hat 2 (by omega); rw [Go.Deep.add_add] at this; simpa using this
    have hex : ∃ f : Nat → BindD, ∀ i, i < m → ((f i).v.size ≤ 9223372036854775807 ∧ (f i).t.name.size ≤ 9223372036854775807) ∧ W.cell? (a.add (i * 3)) = some (.string (f i).v) ∧ W.cell? (a.add (i * 3 + 1)) = some (.bool (f i).t.v) ∧ W.cell? (a.add (i * 3 + 2)) = some (.string (f i).t.name) :=
      ⟨fun i => if h : i < m then (each i h).choose else ⟨⟨#[]⟩, zeroT⟩, fun i h => by simp only [dif_pos h]; exact (each i h).choose_spec⟩
    obtain ⟨f, hfi⟩ := hex
    have hspot : 0 < m → a = ⟨a.block, a.off, none⟩ := fun h0 => addT_cell (by simpa using (hfi 0 h0).2.1)
    refine ⟨some a, m, (List.range n).map f, by simp, ⟨fun j hj => ?_, by simpa using hl, (fun h => by cases h), fun a' e h0 => ?_⟩, fun x hx => ?_, by simp; unfold maxLen at hm; omega⟩
    · have hjn : j < n := by simpa using hj
      obtain ⟨_, c0, c1, c2⟩ := hfi j (by omega)
      have e1 := hspot (by omega)
      have ha : ∀ i, a.add i = ⟨a.block, a.off + i, none⟩ := fun i => by
        conv => lhs; rw [e1]
        exact addr_add _ _ _
      rw [ha] at c0 c1 c2
      have hlt : a.block < W.heap.size := World.block_lt_of_cell? W (⟨a.block, a.off + j * 3, none⟩ : Addr) c0
      refine ⟨a.block, a.off, by rw [← e1], hlt, fun i u hu => ?_⟩
      have hget : ((List.range n).map f)[j] = f j := by simp
      rw [hget] at hu
      match i, hu with
      | 0, hu => simp [encB] at hu; rw [← hu]; exact c0
      | 1, hu => simp [encB] at hu; rw [← hu, Nat.add_assoc]; exact c1
      | 2, hu => simp [encB] at hu; rw [← hu, Nat.add_assoc]; exact c2
      | k + 3, hu => simp [encB] at hu
    · injection e with e
      subst e
      exact ⟨_, _, hspot h0⟩
    · obtain ⟨j, hj, rfl⟩ := List.mem_map.1 hx
      exact (hfi j (by have := List.mem_range.1 hj; omega)).1
end
end Go.Proofs.YtiokjjiakcbmhaaDoor
