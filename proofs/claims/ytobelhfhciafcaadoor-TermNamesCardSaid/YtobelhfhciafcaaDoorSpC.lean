/-
  The walks of package spell's words: Words, Reserved, and the names that are not reserved. Condition: internal/bytealg.MaxLen holds some int.
-/
import Derived.Test.YtobelhfhciafcaaDoorSpB
import Derived.Test.YtobelhfhciafcaaDoorShelf
namespace Go.Proofs.YtobelhfhciafcaaDoor
open Go.RowKit

/-- the reserved words, in order -/
def wordsL : List ByteArray := [⟨#[115, 97, 121, 115]⟩, ⟨#[105, 102]⟩, ⟨#[99, 97, 110, 115, 97, 121]⟩, ⟨#[112, 114, 105, 110, 99, 105, 112, 97, 108]⟩, ⟨#[112, 114, 101, 100]⟩, ⟨#[99, 108, 101, 97, 114]⟩, ⟨#[113, 117, 111, 116, 97]⟩, ⟨#[98, 117, 100, 103, 101, 116]⟩]
def resB (s : ByteArray) : Bool := Lib.containsS wordsL s
/-- the world behind Words -/
def wordsW (w : World) : World := w.alloc (.cells (wordsL.map Value.string).toArray 9)
/-- some int at MaxLen's cell -/
def MaxAt (w : World) : Prop := ∃ m : Int, w.cell? ⟨0, 0, none⟩ = some (.int .i64 m)

set_option maxHeartbeats 400000 in
theorem words_any (w : World) (hm : MaxAt w) :
    Calls Tryd.prog 63 #[] w fun e w' => e = .returned (.slice (some ⟨w.heap.size, 0, none⟩) 8 8) ∧ wordsW w = w' := by
  obtain ⟨m, hm⟩ := hm
  go_enter Tryd.func63, Tryd.ntmps63
  go_wp2_with (go_at_call 71; refine (Tryd.strings_Split _ _ m _ (by decide) hm (by decide)).mono ?_; rintro e w' ⟨rfl, rfl⟩)
  go_ret
  exact ⟨by kernel_rfl, by kernel_rfl⟩

theorem words_cells (w : World) : ∀ j, j < wordsL.length → (wordsW w).cell? ⟨w.heap.size, 0 + j, none⟩ = some (.string (wordsL.getD j ByteArray.empty)) := by
  intro j hj
  unfold wordsW
  rw [cell_of_row _ _ _ _ _ _ (heap_alloc_new _ _)]
  have : j < 8 := hj
  match j, this with
  | 0, _ => rfl | 1, _ => rfl | 2, _ => rfl | 3, _ => rfl | 4, _ => rfl | 5, _ => rfl | 6, _ => rfl | 7, _ => rfl

set_option maxHeartbeats 400000 in
theorem reserved_any (s : ByteArray) (w : World) (hm : MaxAt w) :
    Calls Tryd.prog 48 #[.string s] w fun e w' => e = .returned (.bool (resB s)) ∧ Bel w w' := by
  have hw := words_cells w
  go_enter Tryd.func48, Tryd.ntmps48
  go_wp2_with (first
    | (go_at_call 63; refine (words_any _ hm).mono ?_; rintro e w' ⟨rfl, rfl⟩)
    | (go_at_call 50; refine (Tryd.slices_Contains_string _ 0 8 8 wordsL s _ (by decide) (by decide) hw).mono ?_; rintro e w' ⟨rfl, rfl⟩))
  go_ret
  exact ⟨by rfl, by unfold wordsW; exact Below.alloc (Below.refl _ _) (Nat.le_refl _) _⟩

def wordB (s : ByteArray) : Bool := nameB lowB false s.data.toList
def prinB (s : ByteArray) : Bool := wordB s && !resB s
def consB (s : ByteArray) : Bool := nameB smaB false s.data.toList && !resB s
def variB (s : ByteArray) : Bool := nameB uppB true s.data.toList

set_option maxHeartbeats 400000 in
theorem word_any (s : ByteArray) (w : World) (hs : s.size ≤ maxLen) :
    Calls Tryd.prog 47 #[.string s] w fun e w' => e = .returned (.bool (wordB s)) ∧ Bel w w' := by
  go_enter Tryd.func47, Tryd.ntmps47
  go_wp2_with (go_at_call 54; refine (spelled_low _ _ hs).mono ?_; rintro e w' ⟨rfl, hg⟩)
  go_ret
  exact ⟨rfl, hg⟩
set_option maxHeartbeats 400000 in
theorem variable_any (s : ByteArray) (w : World) (hs : s.size ≤ maxLen) :
    Calls Tryd.prog 38 #[.string s] w fun e w' => e = .returned (.bool (variB s)) ∧ Bel w w' := by
  go_enter Tryd.func38, Tryd.ntmps38
  go_wp2_with (go_at_call 54; refine (spelled_upp _ _ hs).mono ?_; rintro e w' ⟨rfl, hg⟩)
  go_ret
  exact ⟨rfl, hg⟩
theorem MaxAt.bel {w w' : World} (h : MaxAt w) (hg : Bel w w') : MaxAt w' := by
  obtain ⟨m, hm⟩ := h
  exact ⟨m, cell_later hg hm⟩

set_option maxHeartbeats 400000 in
theorem principal_any (s : ByteArray) (w : World) (hs : s.size ≤ maxLen) (hm : MaxAt w) :
    Calls Tryd.prog 30 #[.string s] w fun e w' => e = .returned (.bool (prinB s)) ∧ Bel w w' := by
  have hd : prinB s = (wordB s && !resB s) := rfl
  have HD := Lib.hid hd; clear hd
  rcases Bool.eq_false_or_eq_true (wordB s) with h1 | h1
  · go_enter Tryd.func30, Tryd.ntmps30
    go_wp2_with (first
      | (go_at_call 47; refine (word_any _ _ hs).mono ?_; rintro e w1 ⟨rfl, hg⟩)
      | (go_at_call 48; refine (reserved_any _ _ (hm.bel hg)).mono ?_; rintro e w2 ⟨rfl, hg2⟩))
    go_ret
    exact ⟨by rw [HD.out, h1]; simp, hg.trans' hg2⟩
  · go_enter Tryd.func30, Tryd.ntmps30
    go_wp2_with (go_at_call 47; refine (word_any _ _ hs).mono ?_; rintro e w1 ⟨rfl, hg⟩)
    go_ret
    exact ⟨by rw [HD.out, h1]; rfl, hg⟩

set_option maxHeartbeats 400000 in
theorem predicate_any (s : ByteArray) (w : World) (hs : s.size ≤ maxLen) (hm : MaxAt w) :
    Calls Tryd.prog 31 #[.string s] w fun e w' => e = .returned (.bool (prinB s)) ∧ Bel w w' := by
  have hd : prinB s = (wordB s && !resB s) := rfl
  have HD := Lib.hid hd; clear hd
  rcases Bool.eq_false_or_eq_true (wordB s) with h1 | h1
  · go_enter Tryd.func31, Tryd.ntmps31
    go_wp2_with (first
      | (go_at_call 47; refine (word_any _ _ hs).mono ?_; rintro e w1 ⟨rfl, hg⟩)
      | (go_at_call 48; refine (reserved_any _ _ (hm.bel hg)).mono ?_; rintro e w2 ⟨rfl, hg2⟩))
    go_ret
    exact ⟨by rw [HD.out, h1]; simp, hg.trans' hg2⟩
  · go_enter Tryd.func31, Tryd.ntmps31
    go_wp2_with (go_at_call 47; refine (word_any _ _ hs).mono ?_; rintro e w1 ⟨rfl, hg⟩)
    go_ret
    exact ⟨by rw [HD.out, h1]; rfl, hg⟩

set_option maxHeartbeats 400000 in
theorem constant_any (s : ByteArray) (w : World) (hs : s.size ≤ maxLen) (hm : MaxAt w) :
    Calls Tryd.prog 39 #[.string s] w fun e w' => e = .returned (.bool (consB s)) ∧ Bel w w' := by
  have hd : consB s = (nameB smaB false s.data.toList && !resB s) := rfl
  have HD := Lib.hid hd; clear hd
  rcases Bool.eq_false_or_eq_true (nameB smaB false s.data.toList) with h1 | h1
  · go_enter Tryd.func39, Tryd.ntmps39
    go_wp2_with (first
      | (go_at_call 54; refine (spelled_sma _ _ hs).mono ?_; rintro e w1 ⟨rfl, hg⟩)
      | (go_at_call 48; refine (reserved_any _ _ (hm.bel hg)).mono ?_; rintro e w2 ⟨rfl, hg2⟩))
    go_ret
    exact ⟨by rw [HD.out, h1]; simp, hg.trans' hg2⟩
  · go_enter Tryd.func39, Tryd.ntmps39
    go_wp2_with (go_at_call 54; refine (spelled_sma _ _ hs).mono ?_; rintro e w1 ⟨rfl, hg⟩)
    go_ret
    exact ⟨by rw [HD.out, h1]; rfl, hg⟩
end Go.Proofs.YtobelhfhciafcaaDoor
