/-
  The walks of package intern's table: Text, Find, Uses, Len, New, and all of them at nil. Conditions: the blocks are the table's own.
-/
import Derived.Test.YtobelhfhciafcaaInG
import Derived.Carry
namespace Go.Proofs.Ytobelhfhciafcaa
open Go.RowKit

def findN (st : List (ByteArray × Nat)) (s : ByteArray) : Nat := (numAt st s).getD 0
def findB (st : List (ByteArray × Nat)) (s : ByteArray) : Bool := (numAt st s).isSome
def textE (st : List (ByteArray × Nat)) (n : Int) : Int := if hasT st n then 0 else 13

set_option maxHeartbeats 1000000 in
theorem Text_any (t : Nat) (st : List (ByteArray × Nat)) (bs : List Nat) (n : Int) (w : World) (h : Tab w t st bs) :
    Calls Try.prog 13 #[.pointer (some ⟨t, 0, none⟩), .int .i64 n] w fun e w' => e = .returned (.tuple #[.string (textT st n), .int .i64 (textE st n)]) ∧ w = w' := by
  obtain ⟨M, tv, fv, f, c, frees, R, G, rfl⟩ := h
  have hself := R.self
  obtain ⟨k1, k2, htl, f2⟩ := R.cells
  rcases Bool.eq_false_or_eq_true (hasT st n) with hh | hh
  · obtain ⟨m, s, u, rfl, hm, hu0⟩ := hasT_true hh
    have HT : RowKit.Hid (textT st m = s ∧ textE st m = 0) := Lib.hid (by simp [textT, textE, hh, hm])
    have hml := (List.getElem?_eq_some_iff.1 hm).1
    obtain ⟨g, cap, rfl, _, _, hcap, hmax⟩ := row_value R.row (by omega)
    obtain ⟨cs, ci, fs, fi, hgt⟩ := R.entry hm
    unfold maxLen at hmax
    have hq : (0 : Int) ≤ m := by omega
    have hq2 : (m : Int) < st.length := by omega
    have HR := Lib.hid R
    clear R hm G
    go_enter Try.func13, Try.ntmps13
    go_wp2_with (first | (go_at_call 24; refine (made_any t _ hself).mono ?_; rintro e w' ⟨rfl, rfl⟩) | (go_at_call 26; refine (has_any t _ _ _ _ _ st m _ HR.out.blk HR.out.row).mono ?_; rintro e w' ⟨rfl, rfl⟩))
    go_ret2
    exact ⟨by rw [HT.out.1, HT.out.2]; rfl, rfl⟩
  · have HT : RowKit.Hid (textT st n = ByteArray.empty ∧ textE st n = 13) := Lib.hid (by simp [textT, textE, hh])
    have HR := Lib.hid R
    clear R G
    go_enter Try.func13, Try.ntmps13
    go_wp2_with (first | (go_at_call 24; refine (made_any t _ hself).mono ?_; rintro e w' ⟨rfl, rfl⟩) | (go_at_call 26; refine (has_any t _ _ _ _ _ st n _ HR.out.blk HR.out.row).mono ?_; rintro e w' ⟨rfl, rfl⟩))
    go_ret2
    exact ⟨by rw [HT.out.1, HT.out.2]; rfl, rfl⟩

set_option maxHeartbeats 1000000 in
theorem Uses_any (t : Nat) (st : List (ByteArray × Nat)) (bs : List Nat) (n : Int) (w : World) (h : Tab w t st bs) :
    Calls Try.prog 18 #[.pointer (some ⟨t, 0, none⟩), .int .i64 n] w fun e w' => e = .returned (.int .i64 (usesT st n)) ∧ w = w' := by
  obtain ⟨M, tv, fv, f, c, frees, R, G, rfl⟩ := h
  have hself := R.self
  obtain ⟨k1, k2, htl, f2⟩ := R.cells
  rcases Bool.eq_false_or_eq_true (hasT st n) with hh | hh
  · obtain ⟨m, s, u, rfl, hm, hu0⟩ := hasT_true hh
    have HT : RowKit.Hid (usesT st m = u) := Lib.hid (by simp [usesT, hh, hm])
    have hml := (List.getElem?_eq_some_iff.1 hm).1
    obtain ⟨g, cap, rfl, _, _, hcap, hmax⟩ := row_value R.row (by omega)
    obtain ⟨cs, ci, fs, fi, hgt⟩ := R.entry hm
    unfold maxLen at hmax
    have hq : (0 : Int) ≤ m := by omega
    have hq2 : (m : Int) < st.length := by omega
    have HR := Lib.hid R
    clear R hm G
    go_enter Try.func18, Try.ntmps18
    go_wp2_with (first | (go_at_call 24; refine (made_any t _ hself).mono ?_; rintro e w' ⟨rfl, rfl⟩) | (go_at_call 26; refine (has_any t _ _ _ _ _ st m _ HR.out.blk HR.out.row).mono ?_; rintro e w' ⟨rfl, rfl⟩))
    go_ret
    exact ⟨by rw [HT.out]; rfl, rfl⟩
  · have HT : RowKit.Hid (usesT st n = 0) := Lib.hid (by simp [usesT, hh])
    have HR := Lib.hid R
    clear R G
    go_enter Try.func18, Try.ntmps18
    go_wp2_with (first | (go_at_call 24; refine (made_any t _ hself).mono ?_; rintro e w' ⟨rfl, rfl⟩) | (go_at_call 26; refine (has_any t _ _ _ _ _ st n _ HR.out.blk HR.out.row).mono ?_; rintro e w' ⟨rfl, rfl⟩))
    go_ret
    exact ⟨by rw [HT.out]; rfl, rfl⟩

set_option maxHeartbeats 1000000 in
theorem Find_any (t : Nat) (st : List (ByteArray × Nat)) (bs : List Nat) (s : ByteArray) (w : World) (h : Tab w t st bs) (hs : s.size ≤ 9223372036854775807) :
    Calls Try.prog 15 #[.pointer (some ⟨t, 0, none⟩), .string s] w fun e w' => e = .returned (.tuple #[.int .i64 (findN st s), .bool (findB st s)]) ∧ w = w' := by
  obtain ⟨M, tv, fv, f, c, frees, R, G, rfl⟩ := h
  have hself := R.self
  obtain ⟨k1, k2, htl, f2⟩ := R.cells
  have hl := R.look (s := s) (by unfold maxLen; omega)
  have hlk : (Instr.lookup 49 (.map (some M)) (.string s) true).run Try.prog w = .ok (.tuple #[.int .i64 (findN st s), .bool (findB st s)]) w := by
    rw [hl, G.num s]
    unfold findN findB
    cases numAt st s <;> rfl
  clear hl R G
  go_enter Try.func15, Try.ntmps15
  go_wp2_with (first | (go_at_call 24; refine (made_any t _ hself).mono ?_; rintro e w' ⟨rfl, rfl⟩))
  go_ret2
  exact ⟨rfl, rfl⟩

set_option maxHeartbeats 1000000 in
theorem Len_any (t : Nat) (st : List (ByteArray × Nat)) (bs : List Nat) (w : World) (h : Tab w t st bs) :
    Calls Try.prog 20 #[.pointer (some ⟨t, 0, none⟩)] w fun e w' => e = .returned (.int .i64 (usedN st)) ∧ w = w' := by
  obtain ⟨M, tv, fv, f, c, frees, R, G, rfl⟩ := h
  have hself := R.self
  obtain ⟨k1, k2, htl, f2⟩ := R.cells
  have hl := R.len
  rw [G.count] at hl
  clear R G
  go_enter Try.func20, Try.ntmps20
  go_wp2_with (first | (go_at_call 24; refine (made_any t _ hself).mono ?_; rintro e w' ⟨rfl, rfl⟩))
  go_ret
  exact ⟨rfl, rfl⟩

set_option maxHeartbeats 1000000 in
theorem New_any (w : World) : Calls Try.prog 6 #[] w fun e w' => ∃ t bs, e = .returned (.pointer (some ⟨t, 0, none⟩)) ∧ Tab w' t [] bs ∧ (∀ b ∈ bs, w.heap.size ≤ b) ∧ Below w.heap.size w w' := by
  have hmm := @run_makeMap Try.prog
  go_enter Try.func6, Try.ntmps6
  go_wp2
  go_ret
  refine ⟨_, _, rfl, ⟨w.heap.size, .slice none 0 0, .slice none 0 0, fun _ => none, 0, [], ⟨?_, ?_, World.ownsRow_nil _ _ _ _, World.ownsRow_nil _ _ _ _, ⟨?_, by simp [Value.ownBlock], by simp [Value.ownBlock], by simp [Value.ownBlock], by simp [Value.ownBlock], by simp [Value.ownBlock]⟩⟩, TGood.empty, rfl⟩, ?_, ?_⟩
  · have hh := heap_alloc_new (w.alloc (.map #[] 0)) (.cells #[.pointer (some ⟨w.heap.size + 1, 0, none⟩), .map (some w.heap.size), .slice none 0 0, .slice none 0 0, .int .i64 0] 56)
    rw [World.size_alloc] at hh
    exact hh
  · exact (SMap.made w).fr (Fr.alloc [] _ _) (by simp)
  · simp
  · intro b hb
    simp [Value.ownBlock] at hb
    omega
  · exact ((Below.refl _ w).alloc (Nat.le_refl _) _).alloc (by simp) _

/-! ### at nil -/
set_option maxHeartbeats 1000000 in
theorem Take_nil (s : ByteArray) (w : World) : Calls Try.prog 9 #[.pointer none, .string s] w fun e w' => e = .returned (.tuple #[.int .i64 0, .int .i64 1]) ∧ w = w' := by
  go_enter Try.func9, Try.ntmps9
  go_wp2_with (first | (go_at_call 24; refine (made_nil _).mono ?_; rintro e w' ⟨rfl, rfl⟩))
  go_ret2
  exact ⟨rfl, rfl⟩
set_option maxHeartbeats 1000000 in
theorem Drop_nil (n : Int) (w : World) : Calls Try.prog 11 #[.pointer none, .int .i64 n] w fun e w' => e = .returned (.int .i64 1) ∧ w = w' := by
  go_enter Try.func11, Try.ntmps11
  go_wp2_with (first | (go_at_call 24; refine (made_nil _).mono ?_; rintro e w' ⟨rfl, rfl⟩))
  go_ret
  exact ⟨rfl, rfl⟩
set_option maxHeartbeats 1000000 in
theorem Text_nil (n : Int) (w : World) : Calls Try.prog 13 #[.pointer none, .int .i64 n] w fun e w' => e = .returned (.tuple #[.string ⟨#[]⟩, .int .i64 1]) ∧ w = w' := by
  go_enter Try.func13, Try.ntmps13
  go_wp2_with (first | (go_at_call 24; refine (made_nil _).mono ?_; rintro e w' ⟨rfl, rfl⟩))
  go_ret2
  exact ⟨rfl, rfl⟩
set_option maxHeartbeats 1000000 in
theorem Find_nil (s : ByteArray) (w : World) : Calls Try.prog 15 #[.pointer none, .string s] w fun e w' => e = .returned (.tuple #[.int .i64 0, .bool false]) ∧ w = w' := by
  go_enter Try.func15, Try.ntmps15
  go_wp2_with (first | (go_at_call 24; refine (made_nil _).mono ?_; rintro e w' ⟨rfl, rfl⟩))
  go_ret2
  exact ⟨rfl, rfl⟩
set_option maxHeartbeats 1000000 in
theorem Uses_nil (n : Int) (w : World) : Calls Try.prog 18 #[.pointer none, .int .i64 n] w fun e w' => e = .returned (.int .i64 0) ∧ w = w' := by
  go_enter Try.func18, Try.ntmps18
  go_wp2_with (first | (go_at_call 24; refine (made_nil _).mono ?_; rintro e w' ⟨rfl, rfl⟩))
  go_ret
  exact ⟨rfl, rfl⟩
set_option maxHeartbeats 1000000 in
theorem Len_nil (w : World) : Calls Try.prog 20 #[.pointer none] w fun e w' => e = .returned (.int .i64 0) ∧ w = w' := by
  go_enter Try.func20, Try.ntmps20
  go_wp2_with (first | (go_at_call 24; refine (made_nil _).mono ?_; rintro e w' ⟨rfl, rfl⟩))
  go_ret
  exact ⟨rfl, rfl⟩
end Go.Proofs.Ytobelhfhciafcaa
