/-
  The walks of package spell's words: Words, Reserved, and the names that are not reserved. Condition: internal/bytealg.MaxLen holds some int.
-/
import Derived.Test.YtibnipmkjbojdaaDoorSpB
import Derived.Test.YtibnipmkjbojdaaDoorShelf
namespace Go.Proofs.YtibnipmkjbojdaaDoor
open Go.RowKit

/-- the reserved words, in order -/
def wordsL : List ByteArray := [⟨#[115, 97, 121, 115]⟩, ⟨#[105, 102]⟩, ⟨#[99, 97, 110, 115, 97, 121]⟩, ⟨#[112, 114, 105, 110, 99, 105, 112, 97, 108]⟩, ⟨#[112, 114, 101, 100]⟩, ⟨#[99, 108, 101, 97, 114]⟩, ⟨#[113, 117, 111, 116, 97]⟩, ⟨#[98, 117, 100, 103, 101, 116]⟩]
def resB (s : ByteArray) : Bool := Lib.containsS wordsL s
/-- the world behind Words -/
def wordsW (w : World) : World := w.alloc (.cells (wordsL.map Value.string).toArray 9)
/-- some int at MaxLen's cell -/
def MaxAt (w : World) : Prop := ∃ m : Int, w.cell? ⟨0, 0, none⟩ = some (.int .i64 m)

set_option maxHeartbeats 400000 in
theorem words_any (w : World) (hm : MaxAt w) :
    Calls Tryd.prog 15 #[] w fun e w' => e = .returned (.slice (some ⟨w.heap.size, 0, none⟩) 8 8) ∧ wordsW w = w' := by
  obtain ⟨m, hm⟩ := hm
  go_enter Tryd.func15, Tryd.ntmps15
  go_wp2_with (go_at_call 29; refine (Tryd.strings_Split _ _ m _ (by decide) hm (by decide)).mono ?_; rintro e w' ⟨rfl, rfl⟩)
  go_ret
  exact ⟨by kernel_rfl, by kernel_rfl⟩

theorem words_cells (w : World) : ∀ j, j < wordsL.length → (wordsW w).cell? ⟨w.heap.size, 0 + j, none⟩ = some (.string (wordsL.getD j ByteArray.empty)) := by
  intro j hj
  unfold wordsW
  rw [cell_of_row _ _ _ _ _ _ (heap_alloc_new _ _)]
  have : j < 8 := hj
  match j, this with
  | 0, _ => rfl | 1, _ => rfl | 2, _ => rfl | 3, _ => rfl | 4, _ => rfl | 5, _ => rfl | 6, _ => rfl | 7, _ => rfl

set_option maxHeartbeats 400000 in
theorem reserved_any (s : ByteArray) (w : World) (hm : MaxAt w) :
    Calls Tryd.prog 14 #[.string s] w fun e w' => e = .returned (.bool (resB s)) ∧ Bel w w' := by
  have hw := words_cells w
  go_enter Tryd.func14, Tryd.ntmps14
  go_wp2_with (first
    | (go_at_call 15; refine (words_any _ hm).mono ?_; rintro e w' ⟨rfl, rfl⟩)
    | (go_at_call 28; refine (Tryd.slices_Contains_string _ 0 8 8 wordsL s _ (by decide) (by decide) hw).mono ?_; rintro e w' ⟨rfl, rfl⟩))
  go_ret
  exact ⟨by rfl, by unfold wordsW; exact Below.alloc (Below.refl _ _) (Nat.le_refl _) _⟩

def wordB (s : ByteArray) : Bool := nameB lowB false s.data.toList
def prinB (s : ByteArray) : Bool := wordB s && !resB s
def consB (s : ByteArray) : Bool := nameB smaB false s.data.toList && !resB s
def variB (s : ByteArray) : Bool := nameB uppB true s.data.toList

set_option maxHeartbeats 400000 in
theorem word_any (s : ByteArray) (w : World) (hs : s.size ≤ maxLen) :
    Calls Tryd.prog 24 #[.string s] w fun e w' => e = .returned (.bool (wordB s)) ∧ Bel w w' := by
  go_enter Tryd.func24, Tryd.ntmps24
  go_wp2_with (go_at_call 25; refine (spelled_low _ _ hs).mono ?_; rintro e w' ⟨rfl, hg⟩)
  go_ret
  exact ⟨rfl, hg⟩
set_option maxHeartbeats 400000 in
theorem variable_any (s : ByteArray) (w : World) (hs : s.size ≤ maxLen) :
    Calls Tryd.prog 13 #[.string s] w fun e w' => e = .returned (.bool (variB s)) ∧ Bel w w' := by
  go_enter Tryd.func13, Tryd.ntmps13
  go_wp2_with (go_at_call 25; refine (spelled_upp _ _ hs).mono ?_; rintro e w' ⟨rfl, hg⟩)
  go_ret
  exact ⟨rfl, hg⟩
theorem MaxAt.bel {w w' : World} (h : MaxAt w) (hg : Bel w w') : MaxAt w' := by
  obtain ⟨m, hm⟩ := h
  exact ⟨m, cell_later hg hm⟩

set_option maxHeartbeats 400000 in
theorem principal_any (s : ByteArray) (w : World) (hs : s.size ≤ maxLen) (hm : MaxAt w) :
    Calls Tryd.prog 10 #[.string s] w fun e w' => e = .returned (.bool (prinB s)) ∧ Bel w w' := by
  have hd : prinB s = (wordB s && !resB s) := rfl
  have HD := Lib.hid hd; clear hd
  rcases Bool.eq_false_or_eq_true (wordB s) with h1 | h1
  · go_enter Tryd.func10, Tryd.ntmps10
    go_wp2_with (first
      | (go_at_call 24; refine (word_any _ _ hs).mono ?_; rintro e w1 ⟨rfl, hg⟩)
      | (go_at_call 14; refine (reserved_any _ _ (hm.bel hg)).mono ?_; rintro e w2 ⟨rfl, hg2⟩))
    go_ret
    exact ⟨by rw [HD.out, h1]; simp, hg.trans' hg2⟩
  · go_enter Tryd.func10, Tryd.ntmps10
    go_wp2_with (go_at_call 24; refine (word_any _ _ hs).mono ?_; rintro e w1 ⟨rfl, hg⟩)
    go_ret
    exact ⟨by rw [HD.out, h1]; rfl, hg⟩

set_option maxHeartbeats 400000 in
theorem predicate_any (s : ByteArray) (w : World) (hs : s.size ≤ maxLen) (hm : MaxAt w) :
    Calls Tryd.prog 11 #[.string s] w fun e w' => e = .returned (.bool (prinB s)) ∧ Bel w w' := by
  have hd : prinB s = (wordB s && !resB s) := rfl
  have HD := Lib.hid hd; clear hd
  rcases Bool.eq_false_or_eq_true (wordB s) with h1 | h1
  · go_enter Tryd.func11, Tryd.ntmps11
    go_wp2_with (first
      | (go_at_call 24; refine (word_any _ _ hs).mono ?_; rintro e w1 ⟨rfl, hg⟩)
      | (go_at_call 14; refine (reserved_any _ _ (hm.bel hg)).mono ?_; rintro e w2 ⟨rfl, hg2⟩))
    go_ret
    exact ⟨by rw [HD.out, h1]; simp, hg.trans' hg2⟩
  · go_enter Tryd.func11, Tryd.ntmps11
    go_wp2_with (go_at_call 24; refine (word_any _ _ hs).mono ?_; rintro e w1 ⟨rfl, hg⟩)
    go_ret
    exact ⟨by rw [HD.out, h1]; rfl, hg⟩

set_option maxHeartbeats 400000 in
theorem constant_any (s : ByteArray) (w : World) (hs : s.size ≤ maxLen) (hm : MaxAt w) :
    Calls Tryd.prog 12 #[.string s] w fun e w' => e = .returned (.bool (consB s)) ∧ Bel w w' := by
  have hd : consB s = (nameB smaB false s.data.toList && !resB s) := rfl
  have HD := Lib.hid hd; clear hd
  rcases Bool.eq_false_or_eq_true (nameB smaB false s.data.toList) with h1 | h1
  · go_enter Tryd.func12, Tryd.ntmps12
    go_wp2_with (first
      | (go_at_call 25; refine (spelled_sma _ _ hs).mono ?_; rintro e w1 ⟨rfl, hg⟩)
      | (go_at_call 14; refine (reserved_any _ _ (hm.bel hg)).mono ?_; rintro e w2 ⟨rfl, hg2⟩))
    go_ret
    exact ⟨by rw [HD.out, h1]; simp, hg.trans' hg2⟩
  · go_enter Tryd.func12, Tryd.ntmps12
    go_wp2_with (go_at_call 25; refine (spelled_sma _ _ hs).mono ?_; rintro e w1 ⟨rfl, hg⟩)
    go_ret
    exact ⟨by rw [HD.out, h1]; rfl, hg⟩
end Go.Proofs.YtibnipmkjbojdaaDoor
