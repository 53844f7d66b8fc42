/-
  The law InternLeast for every input. Condition: what came in lies as its parameters' types say.
-/
import Derived.Test.YtenbpfjmdbcgkaaInQ1
namespace Go.Proofs.Ytenbpfjmdbcgkaa
open Go.RowKit

set_option maxRecDepth 100000 in
set_option maxHeartbeats 4000000 in
theorem least_big (A B : Option Addr) (ca cb n m : Nat) (w : World) (h : 60 < n ∨ 60 < m) :
    Calls Try.prog 5 #[.slice A n ca, .slice B m cb] w fun e w' => e = .returned (.bool true) ∧ Below w.heap.size w w' := by
  by_cases h1 : 60 < n
  · go_enter Try.func5, Try.ntmps5
    go_wp2_with (first | (go_at_call 7; refine (lives_any _).mono ?_; rintro e w1 ⟨rfl, h⟩; have HL := Lib.hid h; clear h))
    go_ret
    exact ⟨rfl, HL.out⟩
  · have h2 : 60 < m := by omega
    go_enter Try.func5, Try.ntmps5
    go_wp2_with (first | (go_at_call 7; refine (lives_any _).mono ?_; rintro e w1 ⟨rfl, h⟩; have HL := Lib.hid h; clear h))
    go_ret
    exact ⟨rfl, HL.out⟩
theorem least_law (A B : Option Addr) (ca cb : Nat) (texts : List ByteArray) (drop : List Int) (w : World) (hA : StrsAt w A texts) (hB : IntsAt w B drop) (hs : ∀ s ∈ texts, s.size ≤ maxLen) (hd : ∀ d ∈ drop, -9223372036854775808 ≤ d ∧ d ≤ 9223372036854775807) :
    Calls Try.prog 5 #[.slice A texts.length ca, .slice B drop.length cb] w fun e w' => e = .returned (.bool true) ∧ Below w.heap.size w w' := by
  by_cases h : 60 < texts.length ∨ 60 < drop.length
  · exact least_big A B ca cb _ _ w h
  · exact least_any A B ca cb texts drop w hA hB (fun s h => by have := hs s h; unfold maxLen at this; omega) hd (by omega) (by omega)
end Go.Proofs.Ytenbpfjmdbcgkaa
