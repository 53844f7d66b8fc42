/-
  The walks of the statements' own helper Pick. Conditions: as each says.
-/
import Derived.Test.YtkcnbdlhggoojaaDoorProg
import Derived.WalkKit
import Derived.WalkSpells
import Derived.WalkLawsBesides
import Derived.Lib.Hide
import Derived.Below
import Derived.LoopTactic
import Derived.Deep.QuietTactic
import Derived.BigQuiet
namespace Go.Proofs.YtkcnbdlhggoojaaDoor
open Go.RowKit

theorem ret_intK {k : IntKind} {a b : Int} (h : a = b) : Ending.returned (.int k a) = .returned (.int k b) := by rw [h]
/-- n modulo m from 0 on -/
def pickI (n m : Int) : Int := n % m
set_option maxHeartbeats 400000 in
theorem pick_any (n m : Int) (w : World) (hm : 1 ≤ m) (hm2 : m ≤ 1000000000) (_h1 : -9223372036854775808 ≤ n) (_h2 : n ≤ 9223372036854775807) :
    Calls Tryd.prog 16 #[.int .i64 n, .int .i64 m] w fun e w' => e = .returned (.int .i64 (pickI n m)) ∧ w = w' := by
  have hb1 : n.tmod m < m := Int.tmod_lt_of_pos n (by omega)
  have hb2 : -m < n.tmod m := Int.lt_tmod_of_pos n (by omega)
  have hd : n % m = (n.tmod m) % m := by
    conv => lhs; rw [← Int.mul_tdiv_add_tmod n m]
    rw [Int.mul_add_emod_self_left]
  have hD : RowKit.Hid (pickI n m = (n.tmod m) % m) := Lib.hid hd
  clear hd
  go_enter Tryd.func16, Tryd.ntmps16
  go_wp2
  · go_ret
    have hr : n.tmod m < 0 := by assumption
    refine ⟨ret_intK ?_, rfl⟩
    rw [hD.out, ← Int.add_emod_right, Int.emod_eq_of_lt (by omega) (by omega)]
  · go_ret
    have hr : 0 ≤ n.tmod m := by assumption
    refine ⟨ret_intK ?_, rfl⟩
    rw [hD.out, Int.emod_eq_of_lt (by omega) (by omega)]
theorem pick_range (n m : Int) (hm : 1 ≤ m) : 0 ≤ pickI n m ∧ pickI n m < m := ⟨Int.emod_nonneg _ (by omega), Int.emod_lt_of_pos _ (by omega)⟩
end Go.Proofs.YtkcnbdlhggoojaaDoor
