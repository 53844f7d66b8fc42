/-
  The walks of the statements' own helpers Times and Pick. Conditions: as each says.
-/
import Derived.Test.YtenbpfjmdbcgkaaProg
import Derived.WalkKit
import Derived.WalkSpells
import Derived.WalkLawsBesides
import Derived.Lib.Hide
import Derived.Below
import Derived.LoopTactic
import Derived.Deep.QuietTactic
import Derived.BigQuiet
namespace Go.Proofs.Ytenbpfjmdbcgkaa
open Go.RowKit

/-- s, n times -/
def timesL (s : List UInt8) (n : Nat) : List UInt8 := (List.replicate n s).flatten
theorem timesL_len (s : List UInt8) (n : Nat) : (timesL s n).length = n * s.length := by simp [timesL]
theorem timesL_two (s : List UInt8) (n : Nat) : timesL (s ++ s) n = timesL s (2 * n) := by
  induction n with
  | zero => rfl
  | succ n ih =>
    have e : 2 * (n + 1) = 2 * n + 1 + 1 := by omega
    rw [e]
    simp only [timesL, List.replicate_succ, List.flatten_cons] at ih ⊢
    rw [ih, List.append_assoc]
theorem timesL_comm (s : List UInt8) (n : Nat) : s ++ timesL s n = timesL s n ++ s := by
  induction n with
  | zero => simp [timesL]
  | succ n ih =>
    simp only [timesL, List.replicate_succ, List.flatten_cons] at ih ⊢
    rw [List.append_assoc, ← ih]
theorem times_odd (o s t : List UInt8) (m : Nat) (h : o ++ timesL s m = t) (ho : m % 2 = 1) : (o ++ s) ++ timesL (s ++ s) (m / 2) = t := by
  rw [timesL_two, List.append_assoc, ← h]
  have e : m = 2 * (m / 2) + 1 := by omega
  conv => rhs; rw [e]
  simp only [timesL, List.replicate_succ, List.flatten_cons]
theorem times_even (o s t : List UInt8) (m : Nat) (h : o ++ timesL s m = t) (ho : m % 2 = 0) : o ++ timesL (s ++ s) (m / 2) = t := by
  rw [timesL_two, ← h]
  have e : m = 2 * (m / 2) := by omega
  conv => rhs; rw [e]
theorem ba_append (a b : ByteArray) : (a ++ b).data.toList = a.data.toList ++ b.data.toList := by simp [ByteArray.data_append]
theorem ba_len (a : ByteArray) : a.data.toList.length = a.size := Array.length_toList

theorem times_fits (o s : ByteArray) (t : List UInt8) (m : Nat) (h : o.data.toList ++ timesL s.data.toList m = t) : o.size + m * s.size = t.length := by
  have := congrArg List.length h
  rw [List.length_append, timesL_len, ba_len, ba_len] at this
  exact this

set_option maxHeartbeats 1000000 in
theorem times_any (s : ByteArray) (n : Nat) (w : World) (hs : s.size ≤ 1000000) (hn : n ≤ 1000000) :
    Calls Try.prog 10 #[.string s, .int .i64 n] w fun e w' => (∃ r : ByteArray, e = .returned (.string r) ∧ r.data.toList = timesL s.data.toList n) ∧ w = w' := by
  have hbig : n * s.size ≤ 1000000 * 1000000 := Nat.mul_le_mul hn hs
  have HT := Lib.hid (show (timesL s.data.toList n).length = n * s.size by rw [timesL_len, ba_len])
  generalize ht : timesL s.data.toList n = t at *
  have Ht := Lib.hid ht; clear ht
  have hl : t.length ≤ 1000000 * 1000000 := by rw [HT.out]; exact hbig
  clear hbig
  go_enter Try.func10, Try.ntmps10
  go_wp2
  go_loop [0, 1, 5] (fun c i o => ∃ (m : Nat) (cs os : ByteArray), m ≤ 1000000 ∧ c = .string cs ∧ i = .int .i64 m ∧ o = .string os ∧ RowKit.Hid (os.data.toList ++ timesL cs.data.toList m = t) ∧ cs.size ≤ 2000000000000 ∧ os.size ≤ 2000000000000) (fun _ i _ => (intOf i).toNat)
  case atStart => exact ⟨n, s, ByteArray.empty, hn, rfl, rfl, rfl, Lib.hid (by rw [Ht.out]; rfl), by omega, by simp⟩
  case round =>
    obtain ⟨m, cs, os, hm, rfl, rfl, rfl, H, hcs, hos⟩ := hrel
    have hfit := times_fits _ _ _ _ H.out
    by_cases hlt : 0 < m
    · have hcl : 1 * cs.size ≤ m * cs.size := Nat.mul_le_mul_right _ hlt
      have hc1 : cs.size ≤ 1000000000000 := by omega
      have ho1 : os.size + cs.size ≤ 1000000000000 := by omega
      clear hfit hcl
      rcases Nat.mod_two_eq_zero_or_one m with h2 | h2
      · have HN := Lib.hid (times_even _ _ _ _ H.out h2)
        rw [← ba_append] at HN
        have h2b : (((m : Int) % 2) == 1) = false := by simp; omega
        clear h2
        go_wp2
        go_round
        case rel => exact ⟨m / 2, cs ++ cs, os, by omega, rfl, by go_num, rfl, HN, by rw [ByteArray.size_append]; omega, hos⟩
        case measure => simp [intOf]; omega
      · have HN := Lib.hid (times_odd _ _ _ _ H.out h2)
        rw [← ba_append, ← ba_append] at HN
        have h2b : (((m : Int) % 2) == 1) = true := by simp; omega
        clear h2
        go_wp2
        go_round
        case rel => exact ⟨m / 2, cs ++ cs, os ++ cs, by omega, rfl, by go_num, rfl, HN, by rw [ByteArray.size_append]; omega, by rw [ByteArray.size_append]; omega⟩
        case measure => simp [intOf]; omega
    · obtain rfl : m = 0 := by omega
      have HN : RowKit.Hid (os.data.toList = t) := Lib.hid (by have := H.out; simpa [timesL] using this)
      go_wp2
      go_ret
      exact ⟨⟨os, rfl, HN.out⟩, rfl⟩

theorem ret_intK {k : IntKind} {a b : Int} (h : a = b) : Ending.returned (.int k a) = .returned (.int k b) := by rw [h]
/-- n modulo m from 0 on -/
def pickI (n m : Int) : Int := n % m
set_option maxHeartbeats 400000 in
theorem pick_any (n m : Int) (w : World) (hm : 1 ≤ m) (hm2 : m ≤ 1000000000) (_h1 : -9223372036854775808 ≤ n) (_h2 : n ≤ 9223372036854775807) :
    Calls Try.prog 19 #[.int .i64 n, .int .i64 m] w fun e w' => e = .returned (.int .i64 (pickI n m)) ∧ w = w' := by
  have hb1 : n.tmod m < m := Int.tmod_lt_of_pos n (by omega)
  have hb2 : -m < n.tmod m := Int.lt_tmod_of_pos n (by omega)
  have hd : n % m = (n.tmod m) % m := by
    conv => lhs; rw [← Int.mul_tdiv_add_tmod n m]
    rw [Int.mul_add_emod_self_left]
  have hD : RowKit.Hid (pickI n m = (n.tmod m) % m) := Lib.hid hd
  clear hd
  go_enter Try.func19, Try.ntmps19
  go_wp2
  · go_ret
    have hr : n.tmod m < 0 := by assumption
    refine ⟨ret_intK ?_, rfl⟩
    rw [hD.out, ← Int.add_emod_right, Int.emod_eq_of_lt (by omega) (by omega)]
  · go_ret
    have hr : 0 ≤ n.tmod m := by assumption
    refine ⟨ret_intK ?_, rfl⟩
    rw [hD.out, Int.emod_eq_of_lt (by omega) (by omega)]
theorem pick_range (n m : Int) (hm : 1 ≤ m) : 0 ≤ pickI n m ∧ pickI n m < m := ⟨Int.emod_nonneg _ (by omega), Int.emod_lt_of_pos _ (by omega)⟩
end Go.Proofs.Ytenbpfjmdbcgkaa
