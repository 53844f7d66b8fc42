/-
  What the rows of this seat give: the table of tens, the variable ErrSyntax; a world in which they lie. Conditions: as each says.
-/
import Derived.Test.YtkcnbdlhggoojaaDoorBase
import Derived.Test.YtkcnbdlhggoojaaDoorUnR
import Derived.Lib.LaidTab
import Derived.Stop.LaidErr
import Derived.Test.YtkcnbdlhggoojaaDoorRows
namespace Go.Proofs.YtkcnbdlhggoojaaDoor
open Go.RowKit

theorem gPow : Tryd.prog.globalNamed "internal/strconv.uint64pow10" = some 3 := by kernel_rfl
theorem tab_bel {W w' : World} (h : Lib.TabIs Tryd.prog W "internal/strconv.uint64pow10" .u64 Lib.pow10Tab) (hg : Bel W w') : Lib.TabIs Tryd.prog w' "internal/strconv.uint64pow10" .u64 Lib.pow10Tab := by
  unfold Lib.TabIs World.var? at *
  rw [gPow] at *
  simp only [Option.bind_some] at *
  have hlt : 3 < W.heap.size := by
    cases e : W.heap[3]? with
    | none => rw [e] at h; cases h
    | some o => exact (Array.getElem?_eq_some_iff.1 e).1
  rw [hg.block 3 hlt]
  exact h
theorem itoa_of_tab {W : World} (h : Lib.TabIs Tryd.prog W "internal/strconv.uint64pow10" .u64 Lib.pow10Tab) : ∀ j : Nat, j < 1000000000 → ItoaAt W j := fun j hj w' hw => by
  refine (Tryd.strconv_Itoa (j : Int) (by omega) (by omega) w' (tab_bel h hw)).mono ?_
  rintro e w'' ⟨rfl, k, os, rfl⟩
  refine ⟨⟨_, Lib.hid ?_, rfl⟩, bel_grow w' k os⟩
  unfold Lib.itoa
  rw [if_neg (by omega)]
  try simp
theorem starES : "*" ++ "errors.errorString" = "*errors.errorString" := by decide
theorem rowES (u : TypeId) (h : Tryd.prog.typeName? 3 u = some "*errors.errorString") : u = 113 :=
  typeName_ptr_named (P := Tryd.prog) (nm := "errors.errorString") (by rw [starES]; kernel_rfl) (by kernel_rfl) (by decide) u (by rw [starES]; exact h)
/-- the row's cell: the variable holds an error -/
theorem err_of_laid {W : World} (h : laidMet Tryd.prog Rows.unifyNamesRow.laid W) : ∃ ev : Value, W.cell? ⟨1, 0, none⟩ = some ev ∧ (ev = .nilIface ∨ ∃ te pe, ev = .iface te pe) := by
  obtain ⟨a, s, hv, _⟩ := laid_sentinel (g := 1) (laidMet.tail (laidMet.tail (laidMet.tail (laidMet.tail h)))) (by kernel_rfl) (by kernel_rfl) Tryd.underlying61 rowES Tryd.underlying113 Tryd.underlying115 rfl rfl Tryd.underlying9 (by kernel_rfl) (by kernel_rfl)
  refine ⟨.iface 113 (.pointer (some a)), ?_, .inr ⟨_, _, rfl⟩⟩
  have h0 := World.var?_cell (g := 1) (by kernel_rfl) hv 0
  simpa using h0
/-- the row's cell: the table of tens lies -/
theorem tab_of_laid {W : World} (h : laidMet Tryd.prog Rows.unifyMarksRow.laid W) : Lib.TabIs Tryd.prog W "internal/strconv.uint64pow10" .u64 Lib.pow10Tab :=
  Lib.tabIs_of_head gPow (by kernel_rfl) Tryd.underlying107 Tryd.underlying92 (by kernel_rfl) (by kernel_rfl) (laidMet.tail (laidMet.tail h))
noncomputable def lowE : Nat := (World.holding Tryd.prog default ⟨#[], #[], []⟩).heap.size
/-- a world in which the listed tables and the library's errors lie -/
noncomputable def laidWorldE (l : List (Nat × DataW Unit)) (os : Os) : World :=
  { World.holding Tryd.prog os ⟨#[.cells #[.string ⟨#[118, 97, 108, 117, 101, 32, 111, 117, 116, 32, 111, 102, 32, 114, 97, 110, 103, 101]⟩] 115, .cells #[.string ⟨#[105, 110, 118, 97, 108, 105, 100, 32, 115, 121, 110, 116, 97, 120]⟩] 115], #[], []⟩ with
    heap := ((l.foldl (fun (h : Array Obj) (x : Nat × DataW Unit) => h.modify x.1 (fun o => match o with
      | .cells _ t fr => .cells (numsOf 8 x.2).toArray t fr
      | o => o)) (World.holding Tryd.prog os ⟨#[.cells #[.string ⟨#[118, 97, 108, 117, 101, 32, 111, 117, 116, 32, 111, 102, 32, 114, 97, 110, 103, 101]⟩] 115, .cells #[.string ⟨#[105, 110, 118, 97, 108, 105, 100, 32, 115, 121, 110, 116, 97, 120]⟩] 115], #[], []⟩).heap).modify 2 (fun o => match o with
      | .cells _ t fr => .cells #[.iface 113 (.pointer (some ⟨lowE, 0, none⟩))] t fr
      | o => o)).modify 1 (fun o => match o with
      | .cells _ t fr => .cells #[.iface 113 (.pointer (some ⟨lowE + 1, 0, none⟩))] t fr
      | o => o) }
end Go.Proofs.YtkcnbdlhggoojaaDoor
