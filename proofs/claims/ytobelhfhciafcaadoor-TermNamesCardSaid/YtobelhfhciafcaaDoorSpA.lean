/-
  The walks of package spell's small functions, in plain mathematics: which bytes and which strings they allow. No condition.
-/
import Derived.Test.YtobelhfhciafcaaDoorRows
import Derived.WalkKit
import Derived.WalkSpells
import Derived.WalkLawsBesides
import Derived.Lib.Hide
namespace Go.Proofs.YtobelhfhciafcaaDoor
open Go.RowKit

def lowB (c : UInt8) : Bool := decide (97 ≤ (c.toNat : Int)) && decide ((c.toNat : Int) ≤ 122)
def uppB (c : UInt8) : Bool := decide (65 ≤ (c.toNat : Int)) && decide ((c.toNat : Int) ≤ 90)
def digB (c : UInt8) : Bool := decide (48 ≤ (c.toNat : Int)) && decide ((c.toNat : Int) ≤ 57)
def smaB (c : UInt8) : Bool := lowB c || digB c
def latB (m : Bool) (c : UInt8) : Bool := smaB c || decide ((c.toNat : Int) = 95) || (m && uppB c)

set_option maxHeartbeats 400000 in
theorem low_any (c : UInt8) (w : World) :
    Calls Tryd.prog 62 #[.int .u8 c.toNat] w fun e w' => e = .returned (.bool (lowB c)) ∧ w = w' := by
  unfold lowB
  go_enter Tryd.func62, Tryd.ntmps62
  go_wp2
  all_goals go_ret
  all_goals (simp_all; try omega)
set_option maxHeartbeats 400000 in
theorem upp_any (c : UInt8) (w : World) :
    Calls Tryd.prog 55 #[.int .u8 c.toNat] w fun e w' => e = .returned (.bool (uppB c)) ∧ w = w' := by
  unfold uppB
  go_enter Tryd.func55, Tryd.ntmps55
  go_wp2
  all_goals go_ret
  all_goals (simp_all; try omega)
set_option maxHeartbeats 400000 in
theorem dig_any (c : UInt8) (w : World) :
    Calls Tryd.prog 69 #[.int .u8 c.toNat] w fun e w' => e = .returned (.bool (digB c)) ∧ w = w' := by
  unfold digB
  go_enter Tryd.func69, Tryd.ntmps69
  go_wp2
  all_goals go_ret
  all_goals (simp_all; try omega)
set_option maxHeartbeats 400000 in
theorem sma_any (c : UInt8) (w : World) :
    Calls Tryd.prog 56 #[.int .u8 c.toNat] w fun e w' => e = .returned (.bool (smaB c)) ∧ w = w' := by
  unfold smaB
  have e1 : ∀ x y : Bool, x = true → (x || y) = true := by intro x y h; simp [h]
  by_cases hl : lowB c = true
  all_goals
    go_enter Tryd.func56, Tryd.ntmps56
    go_wp2_with (first
      | (go_at_call 62; refine (low_any _ _).mono ?_; rintro e w' ⟨rfl, rfl⟩)
      | (go_at_call 69; refine (dig_any _ _).mono ?_; rintro e w' ⟨rfl, rfl⟩))
    all_goals go_ret
    all_goals simp_all
set_option maxHeartbeats 400000 in
/-- the closure that 'spelled' makes: m, at the cell that it captured -/
theorem lat_any (m : Bool) (b : Nat) (c : UInt8) (w : World) (hm : w.cell? ⟨b, 0, none⟩ = some (.bool m)) :
    Calls Tryd.prog 67 #[.int .u8 c.toNat, .pointer (some ⟨b, 0, none⟩)] w fun e w' => e = .returned (.bool (latB m c)) ∧ w = w' := by
  have hs : latB m c = (smaB c || ((c.toNat : Int) == 95) || (m && uppB c)) := rfl
  have HS := Lib.hid hs; clear hs
  rcases Bool.eq_false_or_eq_true (smaB c) with h1 | h1 <;> rcases Bool.eq_false_or_eq_true ((c.toNat : Int) == 95) with h2 | h2 <;> cases m
  all_goals
    go_enter Tryd.func67, Tryd.ntmps67
    go_wp2_with (first
      | (go_at_call 56; refine (sma_any _ _).mono ?_; rintro e w' ⟨rfl, rfl⟩)
      | (go_at_call 55; refine (upp_any _ _).mono ?_; rintro e w' ⟨rfl, rfl⟩))
    all_goals go_ret
    all_goals (rw [HS.out, h1, h2]; exact ⟨rfl, rfl⟩)
end Go.Proofs.YtobelhfhciafcaaDoor
