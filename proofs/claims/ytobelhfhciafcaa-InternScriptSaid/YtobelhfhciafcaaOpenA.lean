/-
  A list of calls that came in, opened. No condition.
-/
import Derived.Test.YtobelhfhciafcaaBase
import Derived.Test.YtobelhfhciafcaaInY
import Derived.Deep.Slices
import Derived.ChangeArms
namespace Go.Proofs.Ytobelhfhciafcaa
open Go.RowKit Go.WideShapes Go.ChangeShapes Go.ChangeAt

theorem cellsA : Try.prog.cellsOf 30 = 3 := by kernel_rfl
theorem cellsI : Try.prog.cellsOf 3 = 1 := by kernel_rfl
theorem cellsS : Try.prog.cellsOf 9 = 1 := by kernel_rfl
theorem addA_cell {w : World} {a : Addr} {v : Value} (h : w.cell? (a.add 0) = some v) : a = ⟨a.block, a.off, none⟩ := by
  obtain ⟨b, o, s⟩ := a
  cases s with
  | none => rfl
  | some x =>
    exfalso
    unfold Addr.add World.cell? at h
    rw [if_pos rfl] at h
    split at h <;> simp_all
theorem addA_at (b o j : Nat) : (⟨b, o, none⟩ : Addr).add j = ⟨b, o + j, none⟩ := by unfold Addr.add; split <;> simp_all
theorem acts_open {H : Type} {enc : TypeId × Value → H} {W : World} {base : Nat} {v : Value} {d : DataW H} {ps : List MemPlace} (hv : Value.okWide Try.prog W .any base 22 v) (h : DataW.Trod enc Try.prog W 0 (fun _ => true) true 22 v d ps) :
    ∃ (A : Option Addr) (ca : Nat) (xs : List ActD), v = .slice A xs.length ca ∧ ActsAt W A xs ∧ (∀ x ∈ xs, ActOk x) ∧ xs.length ≤ 9223372036854775807 := by
  obtain ⟨A, n, ca, rfl⟩ := okWide_slice Try.underlying22 hv
  obtain ⟨fuel, hf⟩ := h
  rcases Go.Deep.open_slice Try.underlying22 hf with ⟨hcs, _⟩ | ⟨a, len, cap, m, n', D, Pl, hcs, _, hl, hm, hmm, _, hi⟩
  · simp [Value.cells] at hcs
    obtain ⟨rfl, rfl, rfl⟩ := hcs
    exact ⟨none, 0, [], rfl, fun j hj => by simp at hj, fun s hs => by simp at hs, by simp⟩
  · simp [Value.cells] at hcs
    obtain ⟨rfl, rfl, rfl⟩ := hcs
    rw [if_pos rfl] at hmm
    subst hmm
    have each : ∀ i, i < m → ∃ x : ActD, ActOk x ∧ W.cell? (a.add (i * 3)) = some (.int .i64 x.kind) ∧ W.cell? (a.add (i * 3 + 1)) = some (.string x.text) ∧ W.cell? (a.add (i * 3 + 2)) = some (.int .i64 x.n) := fun i him => by
      obtain ⟨cs, hc, ht⟩ := hi i him
      rw [cellsA] at hc
      obtain ⟨_, hcl, hat⟩ := World.cells?_some hc
      obtain ⟨ys, n2, _, _, _, hyl, hfd⟩ := DataW.trod_struct Try.underlying30 ht
      match cs, hcl with
      | [v0, v1, v2], _ =>
        have hyl3 : ys.length = 3 := hyl
        match ys, hyl3 with
        | [y0, y1, y2], _ =>
          have h0 := hfd 0 _ rfl
          have h1 := hfd 1 _ rfl
          have h2 := hfd 2 _ rfl
          obtain ⟨k, e0, _, w0⟩ := DataW.trod_int Try.underlying3 h0
          obtain ⟨s, e1, _, w1⟩ := DataW.trod_string Try.underlying9 h1
          obtain ⟨q, e2, _, w2⟩ := DataW.trod_int Try.underlying3 h2
          simp [cellsI] at e0
          simp [cellsS] at e1
          simp [cellsI] at e2
          subst e0 e1 e2
          refine ⟨⟨k, s, q⟩, ⟨by simpa [Lit.wf, IntKind.min, IntKind.max, IntKind.signed, IntKind.bits] using w0, by unfold maxLen at w1; omega, by simpa [Lit.wf, IntKind.min, IntKind.max, IntKind.signed, IntKind.bits] using w2⟩, ?_, ?_, ?_⟩
          · have := hat 0 (by omega); rw [Go.Deep.add_add] at this; simpa using this
          · have := hat 1 (by omega); rw [Go.Deep.add_add] at this; simpa using this
          · have := hat 2 (by omega); rw [Go.Deep.add_add] at this; simpa using this
    have hex : ∃ f : Nat → ActD, ∀ i, i < m → ActOk (f i) ∧ W.cell? (a.add (i * 3)) = some (.int .i64 (f i).kind) ∧ W.cell? (a.add (i * 3 + 1)) = some (.string (f i).text) ∧ W.cell? (a.add (i * 3 + 2)) = some (.int .i64 (f i).n) :=
      ⟨fun i => if h : i < m then (each i h).choose else ⟨0, ByteArray.empty, 0⟩, fun i h => by simp only [dif_pos h]; exact (each i h).choose_spec⟩
    obtain ⟨f, hfi⟩ := hex
    refine ⟨some a, m, (List.range n).map f, by simp, fun j hj => ?_, fun x hx => ?_, by simp; unfold maxLen at hm; omega⟩
    · have hjn : j < n := by simpa using hj
      obtain ⟨_, c0, c1, c2⟩ := hfi j (by omega)
      have e1 := addA_cell (by simpa using (hfi 0 (by omega)).2.1)
      have ha : ∀ i, a.add i = ⟨a.block, a.off + i, none⟩ := fun i => by
        conv => lhs; rw [e1]
        exact addA_at _ _ _
      rw [ha] at c0 c1 c2
      have hlt : a.block < W.heap.size := World.block_lt_of_cell? W (⟨a.block, a.off + j * 3, none⟩ : Addr) c0
      refine ⟨a.block, a.off, by rw [← e1], hlt, ?_, ?_, ?_⟩
      · rw [c0]; simp
      · rw [Nat.add_assoc, c1]; simp
      · rw [Nat.add_assoc, c2]; simp
    · obtain ⟨j, hj, rfl⟩ := List.mem_map.1 hx
      exact (hfi j (by have := List.mem_range.1 hj; omega)).1
end Go.Proofs.Ytobelhfhciafcaa
