/-
  The walks of the reference's Constant, Principal, Predicate, Variable of layer 1: they answer what package spell's do.
-/
import Derived.Test.YtkcnbdlhggoojaaDoorSpD
namespace Go.Proofs.YtkcnbdlhggoojaaDoor
open Go.RowKit

set_option maxHeartbeats 400000 in
theorem rConstant_any (s : ByteArray) (w : World) (hs : s.size ≤ maxLen) :
    Calls Tryd.prog 50 #[.string s] w fun e w' => e = .returned (.bool (consB s)) ∧ Bel w w' := by
  have hd : consB s = (nameB smaB false s.data.toList && !resB s) := rfl
  have HD := Lib.hid hd; clear hd
  rcases Bool.eq_false_or_eq_true (nameB smaB false s.data.toList) with h1 | h1
  · go_enter Tryd.func50, Tryd.ntmps50
    go_wp2_with (first
      | (go_at_call 62; refine (rcon_any _ _ hs).mono ?_; rintro e w1 ⟨rfl, rfl⟩)
      | (go_at_call 63; refine (rres_any _ _).mono ?_; rintro e w2 ⟨rfl, hg2⟩))
    go_ret
    exact ⟨by rw [HD.out, h1]; simp, hg2⟩
  · go_enter Tryd.func50, Tryd.ntmps50
    go_wp2_with (go_at_call 62; refine (rcon_any _ _ hs).mono ?_; rintro e w1 ⟨rfl, rfl⟩)
    go_ret
    exact ⟨by rw [HD.out, h1]; rfl, Below.refl _ _⟩

theorem consB_size (s : ByteArray) (h : consB s = true) : 0 < s.size := by
  rcases Nat.eq_zero_or_pos s.size with h0 | h0
  · exfalso
    simp only [consB, nameB_nil smaB false s.data.toList (by simpa using h0)] at h
    cases h
  · exact h0
theorem prinB_cons (s : ByteArray) (h : 0 < s.size) : prinB s = (consB s && lowB s[0]) := by
  obtain ⟨⟨l⟩⟩ := s
  cases l with
  | nil => simp [ByteArray.size] at h
  | cons c r =>
    show (nameB lowB false (c :: r) && !resB _) = ((nameB smaB false (c :: r) && !resB _) && lowB c)
    have hs : smaB c = (lowB c || digB c) := rfl
    simp only [nameB, hs]
    cases lowB c <;> cases digB c <;> simp
theorem prinB_false (s : ByteArray) (h : consB s = false) : prinB s = false := by
  rcases Nat.eq_zero_or_pos s.size with h0 | h0
  · simp only [prinB, wordB, nameB_nil lowB false s.data.toList (by simpa using h0)]; rfl
  · rw [prinB_cons s h0, h]; rfl

set_option maxHeartbeats 400000 in
theorem rPrincipal_any (s : ByteArray) (w : World) (hs : s.size ≤ maxLen) :
    Calls Tryd.prog 31 #[.string s] w fun e w' => e = .returned (.bool (prinB s)) ∧ Bel w w' := by
  have hs' := hs
  unfold maxLen at hs'
  rcases Bool.eq_false_or_eq_true (consB s) with h1 | h1
  · have h0 := consB_size s h1
    have HD := Lib.hid (prinB_cons s h0)
    go_enter Tryd.func31, Tryd.ntmps31
    go_wp2_with (first
      | (go_at_call 50; refine (rConstant_any _ _ hs).mono ?_; rintro e w1 ⟨rfl, hg⟩)
      | (go_at_call 51; refine (rlow_any _ _).mono ?_; rintro e w2 ⟨rfl, rfl⟩))
    go_ret
    exact ⟨by rw [HD.out, h1]; simp, hg⟩
  · have HD := Lib.hid (prinB_false s h1)
    go_enter Tryd.func31, Tryd.ntmps31
    go_wp2_with (go_at_call 50; refine (rConstant_any _ _ hs).mono ?_; rintro e w1 ⟨rfl, hg⟩)
    go_ret
    exact ⟨by rw [HD.out]; rfl, hg⟩
set_option maxHeartbeats 400000 in
theorem rPredicate_any (s : ByteArray) (w : World) (hs : s.size ≤ maxLen) :
    Calls Tryd.prog 32 #[.string s] w fun e w' => e = .returned (.bool (prinB s)) ∧ Bel w w' := by
  go_enter Tryd.func32, Tryd.ntmps32
  go_wp2_with (go_at_call 31; refine (rPrincipal_any _ _ hs).mono ?_; rintro e w1 ⟨rfl, hg⟩)
  go_ret
  exact ⟨rfl, hg⟩
theorem rVariable_any (s : ByteArray) (w : World) (hs : s.size ≤ maxLen) :
    Calls Tryd.prog 52 #[.string s] w fun e w' => e = .returned (.bool (variB s)) ∧ w = w' := rvar_any s w hs

end Go.Proofs.YtkcnbdlhggoojaaDoor
