/-
  The walks of package spell's 'every' and 'spelled': which strings are names. No condition.
-/
import Derived.Test.YtkcnbdlhggoojaaDoorSpA
namespace Go.Proofs.YtkcnbdlhggoojaaDoor
open Go.RowKit

/-- nothing that was there has turned -/
abbrev Bel (w w' : World) : Prop := Below w.heap.size w w'
theorem Bel.trans' {a b c : World} (h : Bel a b) (k : Bel b c) : Bel a c := Below.trans h (Below.mono k h.size)

theorem take_snoc' (s : ByteArray) (k : Nat) (h : k < s.size) : s.data.toList.take (k + 1) = s.data.toList.take k ++ [s[k]] := by
  rw [List.take_succ_eq_append_getElem (by simpa using h)]; rfl
def allB (m : Bool) (l : List UInt8) : Bool := l.all (latB m)
theorem allB_snoc (m : Bool) (s : ByteArray) (k : Nat) (h : k < s.size) : allB m (s.data.toList.take (k + 1)) = (allB m (s.data.toList.take k) && latB m s[k]) := by
  rw [take_snoc' s k h]; simp [allB]
theorem allB_not (m : Bool) (s : ByteArray) (k : Nat) (h : k < s.size) (hp : latB m s[k] = false) : allB m s.data.toList = false := by
  unfold allB
  rw [List.all_eq_false]
  exact ⟨s[k], by simp [ByteArray.getElem_eq_getElem_data], by simp [hp]⟩

/-- which strings are names of a kind: the first byte, the length, the later bytes -/
def nameB (f : UInt8 → Bool) (m : Bool) (l : List UInt8) : Bool := match l with
  | [] => false
  | c :: r => decide (l.length ≤ 255) && (f c && allB m r)
theorem nameB_nil (f : UInt8 → Bool) (m : Bool) (l : List UInt8) (h : l.length = 0) : nameB f m l = false := by
  cases l with
  | nil => rfl
  | cons c r => simp at h
theorem nameB_long (f : UInt8 → Bool) (m : Bool) (l : List UInt8) (h : 255 < l.length) : nameB f m l = false := by
  cases l with
  | nil => rfl
  | cons c r => simp only [nameB, Bool.and_eq_false_iff, decide_eq_false_iff_not]; left; omega
theorem nameB_some (f : UInt8 → Bool) (m : Bool) (s : ByteArray) (h : 0 < s.size) (h2 : s.size ≤ 255) : nameB f m s.data.toList = (f s[0] && allB m (s.extract 1 s.size).data.toList) := by
  obtain ⟨⟨l⟩⟩ := s
  cases l with
  | nil => simp [ByteArray.size] at h
  | cons c r =>
    have hl : (c :: r).length ≤ 255 := by simpa [ByteArray.size] using h2
    have he : (ByteArray.extract ⟨⟨c :: r⟩⟩ 1 (ByteArray.size ⟨⟨c :: r⟩⟩)).data.toList = r := by
      rw [ByteArray.data_extract]; simp [ByteArray.size]
    show nameB f m (c :: r) = _
    rw [he]
    simp only [nameB, hl, decide_true, Bool.true_and]
    rfl


end Go.Proofs.YtkcnbdlhggoojaaDoor
