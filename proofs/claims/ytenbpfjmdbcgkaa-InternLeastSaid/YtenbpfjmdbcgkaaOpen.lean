/-
  Lists of strings and of numbers that came in, opened. No condition.
-/
import Derived.Test.YtenbpfjmdbcgkaaBase
import Derived.Test.YtenbpfjmdbcgkaaInQ3
import Derived.SliceStrings
import Derived.ChangeSlices
namespace Go.Proofs.Ytenbpfjmdbcgkaa
open Go.RowKit Go.WideShapes Go.ChangeShapes Go.ChangeAt

theorem cells_str : Try.prog.cellsOf 9 = 1 := by kernel_rfl
theorem cells_int : Try.prog.cellsOf 3 = 1 := by kernel_rfl
theorem add_cell {w : World} {a : Addr} {v : Value} (h : w.cell? (a.add 0) = some v) : a = ⟨a.block, a.off, none⟩ := by
  obtain ⟨b, o, s⟩ := a
  cases s with
  | none => rfl
  | some x =>
    exfalso
    unfold Addr.add World.cell? at h
    rw [if_pos rfl] at h
    split at h <;> simp_all
theorem add_at (b o j : Nat) : (⟨b, o, none⟩ : Addr).add j = ⟨b, o + j, none⟩ := by unfold Addr.add; split <;> simp_all
theorem strs_open {H : Type} {enc : TypeId × Value → H} {W : World} {base : Nat} {v : Value} {d : DataW H} {ps : List MemPlace} (hv : Value.okWide Try.prog W .any base 53 v) (h : DataW.Trod enc Try.prog W 0 (fun _ => true) true 53 v d ps) :
    ∃ (A : Option Addr) (ca : Nat) (xs : List ByteArray), v = .slice A xs.length ca ∧ StrsAt W A xs ∧ ∀ s ∈ xs, s.size ≤ maxLen := by
  obtain ⟨A, n, ca, rfl⟩ := okWide_slice Try.underlying53 hv
  obtain ⟨fuel, hf⟩ := h
  rcases open_strings Try.underlying53 Try.underlying9 cells_str hf with ⟨hcs, _⟩ | ⟨a, len, cap, ss, hcs, _, hl, hm, hz, _, hcell, hws⟩
  · simp [Value.cells] at hcs
    obtain ⟨rfl, rfl, rfl⟩ := hcs
    exact ⟨none, 0, [], rfl, fun j hj => by simp at hj, fun s hs => by simp at hs⟩
  · simp [Value.cells] at hcs
    obtain ⟨rfl, rfl, rfl⟩ := hcs
    rw [if_pos rfl] at hz
    refine ⟨some a, ca, ss.take n, by rw [List.length_take, hz, Nat.min_eq_left hl], fun j hj => ?_, fun s hs => hws s (List.mem_of_mem_take hs)⟩
    rw [List.length_take] at hj
    have hjs : j < ss.length := by omega
    have hc := hcell j hjs
    have e1 := add_cell (hcell 0 (by omega))
    have e2 : a.add j = ⟨a.block, a.off + j, none⟩ := by
      conv => lhs; rw [e1]
      exact add_at _ _ _
    rw [e2] at hc
    have hlt : a.block < W.heap.size := World.block_lt_of_cell? W (⟨a.block, a.off + j, none⟩ : Addr) hc
    refine ⟨a.block, a.off, by rw [← e1], hlt, ?_⟩
    rw [hc]
    simp [hjs]
theorem ints_open {H : Type} {enc : TypeId × Value → H} {W : World} {base : Nat} {v : Value} {d : DataW H} {ps : List MemPlace} (hv : Value.okWide Try.prog W .any base 54 v) (h : DataW.Trod enc Try.prog W 0 (fun _ => true) true 54 v d ps) :
    ∃ (A : Option Addr) (ca : Nat) (xs : List Int), v = .slice A xs.length ca ∧ IntsAt W A xs ∧ ∀ x ∈ xs, -9223372036854775808 ≤ x ∧ x ≤ 9223372036854775807 := by
  obtain ⟨A, n, ca, rfl⟩ := okWide_slice Try.underlying54 hv
  obtain ⟨fuel, hf⟩ := h
  rcases open_ints Try.underlying54 Try.underlying3 cells_int hf with ⟨hcs, _⟩ | ⟨a, len, cap, zs, hcs, _, hl, hm, hz, _, hcell, hws⟩
  · simp [Value.cells] at hcs
    obtain ⟨rfl, rfl, rfl⟩ := hcs
    exact ⟨none, 0, [], rfl, fun j hj => by simp at hj, fun s hs => by simp at hs⟩
  · simp [Value.cells] at hcs
    obtain ⟨rfl, rfl, rfl⟩ := hcs
    rw [if_pos rfl] at hz
    refine ⟨some a, ca, zs.take n, by rw [List.length_take, hz, Nat.min_eq_left hl], fun j hj => ?_, fun x hx => by have := hws x (List.mem_of_mem_take hx); simpa [Lit.wf, IntKind.min, IntKind.max, IntKind.signed, IntKind.bits] using this⟩
    rw [List.length_take] at hj
    have hjs : j < zs.length := by omega
    have hc := hcell j hjs
    have e1 := add_cell (hcell 0 (by omega))
    have e2 : a.add j = ⟨a.block, a.off + j, none⟩ := by
      conv => lhs; rw [e1]
      exact add_at _ _ _
    rw [e2] at hc
    have hlt : a.block < W.heap.size := World.block_lt_of_cell? W (⟨a.block, a.off + j, none⟩ : Addr) hc
    refine ⟨a.block, a.off, by rw [← e1], hlt, ?_⟩
    rw [hc]
    simp [hjs]
end Go.Proofs.Ytenbpfjmdbcgkaa
