/-
  The walks of package spell's 'every' and 'spelled': which strings are names. No condition.
-/
import Derived.Test.YtobelhfhciafcaaDoorSpA
namespace Go.Proofs.YtobelhfhciafcaaDoor
open Go.RowKit

/-- nothing that was there has turned -/
abbrev Bel (w w' : World) : Prop := Below w.heap.size w w'
theorem Bel.trans' {a b c : World} (h : Bel a b) (k : Bel b c) : Bel a c := Below.trans h (Below.mono k h.size)

theorem take_snoc' (s : ByteArray) (k : Nat) (h : k < s.size) : s.data.toList.take (k + 1) = s.data.toList.take k ++ [s[k]] := by
  rw [List.take_succ_eq_append_getElem (by simpa using h)]; rfl
def allB (m : Bool) (l : List UInt8) : Bool := l.all (latB m)
theorem allB_snoc (m : Bool) (s : ByteArray) (k : Nat) (h : k < s.size) : allB m (s.data.toList.take (k + 1)) = (allB m (s.data.toList.take k) && latB m s[k]) := by
  rw [take_snoc' s k h]; simp [allB]
theorem allB_not (m : Bool) (s : ByteArray) (k : Nat) (h : k < s.size) (hp : latB m s[k] = false) : allB m s.data.toList = false := by
  unfold allB
  rw [List.all_eq_false]
  exact ⟨s[k], by simp [ByteArray.getElem_eq_getElem_data], by simp [hp]⟩

set_option maxHeartbeats 400000 in
theorem every_any (m : Bool) (b : Nat) (s : ByteArray) (w : World) (hs : s.size ≤ maxLen) (hm : w.cell? ⟨b, 0, none⟩ = some (.bool m)) :
    Calls Tryd.prog 68 #[.string s, .func (.func 67) #[] #[.pointer (some ⟨b, 0, none⟩)]] w fun e w' => e = .returned (.bool (allB m s.data.toList)) ∧ w = w' := by
  unfold maxLen at hs
  go_enter Tryd.func68, Tryd.ntmps68
  go_wp2
  go_loop [8] (fun i => ∃ k : Nat, k ≤ s.size ∧ i = .int .i64 k ∧ RowKit.Hid (allB m (s.data.toList.take k) = true)) (fun i => s.size - (intOf i).toNat)
  case atStart => exact ⟨0, Nat.zero_le _, rfl, Lib.hid rfl⟩
  case round =>
    obtain ⟨k, hk, rfl, H⟩ := hrel
    by_cases hlt : k < s.size
    · rcases Bool.eq_false_or_eq_true (latB m s[k]) with h1 | h1
      · have HN : RowKit.Hid (allB m (s.data.toList.take (k + 1)) = true) := Lib.hid (by rw [allB_snoc _ _ _ hlt, H.out, h1]; rfl)
        go_wp2_with (go_at_call 67; refine (lat_any m b _ _ hm).mono ?_; rintro e w' ⟨rfl, rfl⟩)
        go_round
        case rel => exact ⟨k + 1, by omega, by go_num, HN⟩
        case measure => simp [intOf]; omega
      · have HN := Lib.hid (allB_not _ _ _ hlt h1)
        go_wp2_with (go_at_call 67; refine (lat_any m b _ _ hm).mono ?_; rintro e w' ⟨rfl, rfl⟩)
        go_ret
        exact ⟨by rw [HN.out]; rfl, rfl⟩
    · have HN : RowKit.Hid (allB m s.data.toList = true) := Lib.hid (by have := H.out; rwa [List.take_of_length_le (by simp; omega)] at this)
      go_wp2
      go_ret
      exact ⟨by rw [HN.out]; rfl, rfl⟩

/-- which strings are names of a kind: the first byte, the length, the later bytes -/
def nameB (f : UInt8 → Bool) (m : Bool) (l : List UInt8) : Bool := match l with
  | [] => false
  | c :: r => decide (l.length ≤ 255) && (f c && allB m r)
theorem nameB_nil (f : UInt8 → Bool) (m : Bool) (l : List UInt8) (h : l.length = 0) : nameB f m l = false := by
  cases l with
  | nil => rfl
  | cons c r => simp at h
theorem nameB_long (f : UInt8 → Bool) (m : Bool) (l : List UInt8) (h : 255 < l.length) : nameB f m l = false := by
  cases l with
  | nil => rfl
  | cons c r => simp only [nameB, Bool.and_eq_false_iff, decide_eq_false_iff_not]; left; omega
theorem nameB_some (f : UInt8 → Bool) (m : Bool) (s : ByteArray) (h : 0 < s.size) (h2 : s.size ≤ 255) : nameB f m s.data.toList = (f s[0] && allB m (s.extract 1 s.size).data.toList) := by
  obtain ⟨⟨l⟩⟩ := s
  cases l with
  | nil => simp [ByteArray.size] at h
  | cons c r =>
    have hl : (c :: r).length ≤ 255 := by simpa [ByteArray.size] using h2
    have he : (ByteArray.extract ⟨⟨c :: r⟩⟩ 1 (ByteArray.size ⟨⟨c :: r⟩⟩)).data.toList = r := by
      rw [ByteArray.data_extract]; simp [ByteArray.size]
    show nameB f m (c :: r) = _
    rw [he]
    simp only [nameB, hl, decide_true, Bool.true_and]
    rfl


set_option maxHeartbeats 1000000 in
theorem spelled_low (s : ByteArray) (w : World) (hs : s.size ≤ maxLen) :
    Calls Tryd.prog 54 #[.string s, .func (.func 62) #[] #[], .bool false] w fun e w' => e = .returned (.bool (nameB lowB false s.data.toList)) ∧ Bel w w' := by
  unfold maxLen at hs
  by_cases h0 : s.size = 0
  · have HN := Lib.hid (nameB_nil lowB false s.data.toList (by simpa using h0))
    have h0' : (s.size : Int) < 1 := by omega
    clear h0
    go_enter Tryd.func54, Tryd.ntmps54
    go_wp2
    go_ret
    exact ⟨by rw [HN.out]; rfl, by repeat (first | exact Below.refl _ _ | exact Below.alloc (Below.refl _ _) (Nat.le_refl _) _)⟩
  by_cases h1 : 255 < s.size
  · have HN := Lib.hid (nameB_long lowB false s.data.toList (by simpa using h1))
    go_enter Tryd.func54, Tryd.ntmps54
    go_wp2
    go_ret
    exact ⟨by rw [HN.out]; rfl, by repeat (first | exact Below.refl _ _ | exact Below.alloc (Below.refl _ _) (Nat.le_refl _) _)⟩
  have h0' : 0 < s.size := by omega
  have h1' : s.size ≤ 255 := by omega
  have HN := Lib.hid (nameB_some lowB false s h0' h1')
  clear h0 h1
  rcases Bool.eq_false_or_eq_true (lowB s[0]) with h2 | h2
  all_goals
    go_enter Tryd.func54, Tryd.ntmps54
    go_wp2_with (first
      | (go_at_call 62; refine (low_any _ _).mono ?_; rintro e w' ⟨rfl, rfl⟩)
      | (go_at_call 68; refine (every_any false _ _ _ (by simp [maxLen, ByteArray.size_extract]; omega) (by simp)).mono ?_; rintro e w' ⟨rfl, rfl⟩))
    go_ret
    exact ⟨by rw [HN.out, h2]; simp, by repeat (first | exact Below.refl _ _ | exact Below.alloc (Below.refl _ _) (Nat.le_refl _) _)⟩

set_option maxHeartbeats 1000000 in
theorem spelled_sma (s : ByteArray) (w : World) (hs : s.size ≤ maxLen) :
    Calls Tryd.prog 54 #[.string s, .func (.func 56) #[] #[], .bool false] w fun e w' => e = .returned (.bool (nameB smaB false s.data.toList)) ∧ Bel w w' := by
  unfold maxLen at hs
  by_cases h0 : s.size = 0
  · have HN := Lib.hid (nameB_nil smaB false s.data.toList (by simpa using h0))
    have h0' : (s.size : Int) < 1 := by omega
    clear h0
    go_enter Tryd.func54, Tryd.ntmps54
    go_wp2
    go_ret
    exact ⟨by rw [HN.out]; rfl, by repeat (first | exact Below.refl _ _ | exact Below.alloc (Below.refl _ _) (Nat.le_refl _) _)⟩
  by_cases h1 : 255 < s.size
  · have HN := Lib.hid (nameB_long smaB false s.data.toList (by simpa using h1))
    go_enter Tryd.func54, Tryd.ntmps54
    go_wp2
    go_ret
    exact ⟨by rw [HN.out]; rfl, by repeat (first | exact Below.refl _ _ | exact Below.alloc (Below.refl _ _) (Nat.le_refl _) _)⟩
  have h0' : 0 < s.size := by omega
  have h1' : s.size ≤ 255 := by omega
  have HN := Lib.hid (nameB_some smaB false s h0' h1')
  clear h0 h1
  rcases Bool.eq_false_or_eq_true (smaB s[0]) with h2 | h2
  all_goals
    go_enter Tryd.func54, Tryd.ntmps54
    go_wp2_with (first
      | (go_at_call 56; refine (sma_any _ _).mono ?_; rintro e w' ⟨rfl, rfl⟩)
      | (go_at_call 68; refine (every_any false _ _ _ (by simp [maxLen, ByteArray.size_extract]; omega) (by simp)).mono ?_; rintro e w' ⟨rfl, rfl⟩))
    go_ret
    exact ⟨by rw [HN.out, h2]; simp, by repeat (first | exact Below.refl _ _ | exact Below.alloc (Below.refl _ _) (Nat.le_refl _) _)⟩

set_option maxHeartbeats 1000000 in
theorem spelled_upp (s : ByteArray) (w : World) (hs : s.size ≤ maxLen) :
    Calls Tryd.prog 54 #[.string s, .func (.func 55) #[] #[], .bool true] w fun e w' => e = .returned (.bool (nameB uppB true s.data.toList)) ∧ Bel w w' := by
  unfold maxLen at hs
  by_cases h0 : s.size = 0
  · have HN := Lib.hid (nameB_nil uppB true s.data.toList (by simpa using h0))
    have h0' : (s.size : Int) < 1 := by omega
    clear h0
    go_enter Tryd.func54, Tryd.ntmps54
    go_wp2
    go_ret
    exact ⟨by rw [HN.out]; rfl, by repeat (first | exact Below.refl _ _ | exact Below.alloc (Below.refl _ _) (Nat.le_refl _) _)⟩
  by_cases h1 : 255 < s.size
  · have HN := Lib.hid (nameB_long uppB true s.data.toList (by simpa using h1))
    go_enter Tryd.func54, Tryd.ntmps54
    go_wp2
    go_ret
    exact ⟨by rw [HN.out]; rfl, by repeat (first | exact Below.refl _ _ | exact Below.alloc (Below.refl _ _) (Nat.le_refl _) _)⟩
  have h0' : 0 < s.size := by omega
  have h1' : s.size ≤ 255 := by omega
  have HN := Lib.hid (nameB_some uppB true s h0' h1')
  clear h0 h1
  rcases Bool.eq_false_or_eq_true (uppB s[0]) with h2 | h2
  all_goals
    go_enter Tryd.func54, Tryd.ntmps54
    go_wp2_with (first
      | (go_at_call 55; refine (upp_any _ _).mono ?_; rintro e w' ⟨rfl, rfl⟩)
      | (go_at_call 68; refine (every_any true _ _ _ (by simp [maxLen, ByteArray.size_extract]; omega) (by simp)).mono ?_; rintro e w' ⟨rfl, rfl⟩))
    go_ret
    exact ⟨by rw [HN.out, h2]; simp, by repeat (first | exact Below.refl _ _ | exact Below.alloc (Below.refl _ _) (Nat.le_refl _) _)⟩
end Go.Proofs.YtobelhfhciafcaaDoor
