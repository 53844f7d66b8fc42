/-
  The chapter's example; lists of terms that a call writes out. Condition: the library's variable holds some int.
-/
import Derived.Test.YtkcnbdlhggoojaaDoorTmMa
import Derived.Test.YtkcnbdlhggoojaaDoorTmL
namespace Go.Proofs.YtkcnbdlhggoojaaDoor
open Go.RowKit

theorem AtomOk.sm {a : AtomD} (h : lightA a = true) : AtomSm a := by
  unfold lightA at h
  simp only [Bool.and_eq_true, decide_eq_true_eq] at h
  exact ⟨by omega, by omega, by omega, by omega, by omega, by omega⟩
theorem live1 : madeD ⟨#[97, 108, 105, 99, 101]⟩ ⟨#[112]⟩ [⟨false, ⟨#[97]⟩⟩, ⟨true, ⟨#[88]⟩⟩] = (storedD ⟨#[97, 108, 105, 99, 101]⟩ ⟨#[112]⟩ [⟨false, ⟨#[97]⟩⟩, ⟨true, ⟨#[88]⟩⟩], 0) := made_ok (by decide) (by decide +kernel)
theorem live2 : madeD ⟨#[98, 111, 98]⟩ ⟨#[111, 112, 101, 110]⟩ [] = (storedD ⟨#[98, 111, 98]⟩ ⟨#[111, 112, 101, 110]⟩ [], 0) := made_ok (by decide) (by decide +kernel)
theorem live1_text : textD (storedD ⟨#[97, 108, 105, 99, 101]⟩ ⟨#[112]⟩ [⟨false, ⟨#[97]⟩⟩, ⟨true, ⟨#[88]⟩⟩]) = ⟨#[97, 108, 105, 99, 101, 32, 115, 97, 121, 115, 32, 112, 40, 97, 44, 32, 88, 41]⟩ := by decide +kernel
theorem live2_text : textD (storedD ⟨#[98, 111, 98]⟩ ⟨#[111, 112, 101, 110]⟩ []) = ⟨#[98, 111, 98, 32, 115, 97, 121, 115, 32, 111, 112, 101, 110]⟩ := by decide +kernel
theorem live1_sm : AtomSm (storedD ⟨#[97, 108, 105, 99, 101]⟩ ⟨#[112]⟩ [⟨false, ⟨#[97]⟩⟩, ⟨true, ⟨#[88]⟩⟩]) := ⟨by decide, by decide, by decide, by decide, by decide, by decide⟩
theorem live2_sm : AtomSm (storedD ⟨#[98, 111, 98]⟩ ⟨#[111, 112, 101, 110]⟩ []) := ⟨by decide, by decide, by decide, by decide, by decide, by decide⟩

end Go.Proofs.YtkcnbdlhggoojaaDoor
