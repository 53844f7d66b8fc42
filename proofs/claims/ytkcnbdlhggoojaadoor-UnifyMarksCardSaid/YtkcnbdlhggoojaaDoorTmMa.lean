/-
  Lists of terms that a call writes out; a term's block; constants, variables and the names of an atom. Condition: the library's variable holds some int, where one says so.
-/
import Derived.Test.YtkcnbdlhggoojaaDoorTmF
import Derived.Test.YtkcnbdlhggoojaaDoorTmK
import Derived.Test.YtkcnbdlhggoojaaDoorTmI
namespace Go.Proofs.YtkcnbdlhggoojaaDoor
open Go.RowKit

theorem TermsAt.lit (W : World) (l : List TermD) (hl : l.length ≤ 1000) : TermsAt (W.alloc (.cells (termCells l).toArray 27)) (some ⟨W.heap.size, 0, none⟩) l :=
  TermsAt.of_row (base := 0) (ca := l.length) (World.ownsRow_lit W (termCells l).toArray l.length (Nat.zero_le _) (by unfold maxLen; omega) (by simp [termCells_len]))
/-- block b is the term t -/
def TermAt (w : World) (b : Nat) (t : TermD) : Prop := w.heap[b]? = some (.cells #[.bool t.v, .string t.name] 27)
theorem TermAt.new (w : World) (t : TermD) : TermAt (w.alloc (.cells #[.bool t.v, .string t.name] 27)) w.heap.size t := heap_alloc_new _ _
theorem TermAt.bel {w w' : World} {b : Nat} {t : TermD} (h : TermAt w b t) (hg : Bel w w') : TermAt w' b t := (hg.block b (Array.getElem?_eq_some_iff.1 h).1).trans h
theorem TermAt.cells {w : World} {b : Nat} {t : TermD} (h : TermAt w b t) : w.cell? ⟨b, 0, none⟩ = some (.bool t.v) ∧ w.cell? ⟨b, 1, none⟩ = some (.string t.name) := by
  unfold TermAt at h
  refine ⟨?_, ?_⟩ <;> simp [World.cell?, h]
theorem str_same {a b : ByteArray} (h : a = b) : (a.toList == b.toList) = true := by rw [h]; simp
theorem str_is {a b : ByteArray} (l : List UInt8) (h : a = b) (hl : b = ⟨l.toArray⟩) : (a.toList == l) = true := by
  subst hl; subst h
  rw [ByteArray.toList_eq]; simp
set_option maxHeartbeats 400000 in
theorem c_any (s : ByteArray) (w : World) : Calls Tryd.prog 21 #[.string s] w fun e w' => e = .returned (.agg #[.bool false, .string s]) ∧ Bel w w' := by
  go_enter Tryd.func21, Tryd.ntmps21
  go_wp2
  try simp only [Exit.inBlock, Exit.then]
  refine bodyPost_ret (results_cell_row rfl _ _ w.heap.size 27 #[.bool false, .string s] (0, 0) _ rfl (heap_alloc_new _ _) Tryd.underlying27 rfl (by kernel_rfl)) rfl ?_
  exact ⟨rfl, bel_alloc _ _⟩
set_option maxHeartbeats 400000 in
theorem v_any (s : ByteArray) (w : World) : Calls Tryd.prog 13 #[.string s] w fun e w' => e = .returned (.agg #[.bool true, .string s]) ∧ Bel w w' := by
  go_enter Tryd.func13, Tryd.ntmps13
  go_wp2
  try simp only [Exit.inBlock, Exit.then]
  refine bodyPost_ret (results_cell_row rfl _ _ w.heap.size 27 #[.bool true, .string s] (0, 0) _ rfl (heap_alloc_new _ _) Tryd.underlying27 rfl (by kernel_rfl)) rfl ?_
  exact ⟨rfl, bel_alloc _ _⟩
set_option maxHeartbeats 400000 in
theorem rvars_any (a : AtomD) (w : World) (l : List TermD) (hl : l = (argsD a).take (cntI a.n)) :
    Calls Tryd.prog 17 #[.agg #[.string a.says, .string a.pred, .int .i64 a.n, .bool a.t0.v, .string a.t0.name, .bool a.t1.v, .string a.t1.name, .bool a.t2.v, .string a.t2.name, .bool a.t3.v, .string a.t3.name]] w fun e w' => (∃ A c, RowKit.Hid (ListAt w' A (namesD true l).length ((namesD true l).map Value.string)) ∧ e = .returned (.slice A (namesD true l).length c)) ∧ Bel w w' := by
  have hA := AtomAt.new w a
  have hb := bel_alloc w (.cells #[.string a.says, .string a.pred, .int .i64 a.n, .bool a.t0.v, .string a.t0.name, .bool a.t1.v, .string a.t1.name, .bool a.t2.v, .string a.t2.name, .bool a.t3.v, .string a.t3.name] 30)
  have HL := Lib.hid hl
  clear hl
  go_enter Tryd.func17, Tryd.ntmps17
  go_wp2_with (go_at_call 34; refine (rnames_any a true _ l HL.out).mono ?_; rintro e w1 ⟨⟨A, c, hL, rfl⟩, hg⟩; have hb := hb.trans' hg)
  go_ret
  exact ⟨⟨_, _, hL, rfl⟩, hb⟩
end Go.Proofs.YtkcnbdlhggoojaaDoor
