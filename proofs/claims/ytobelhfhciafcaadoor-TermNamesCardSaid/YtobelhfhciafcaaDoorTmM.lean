/-
  The chapter's example; lists of terms that a call writes out. Condition: the library's variable holds some int.
-/
import Derived.Test.YtobelhfhciafcaaDoorTmF
import Derived.Test.YtobelhfhciafcaaDoorTmK
import Derived.Test.YtobelhfhciafcaaDoorTmL
import Derived.Test.YtobelhfhciafcaaDoorTmI
namespace Go.Proofs.YtobelhfhciafcaaDoor
open Go.RowKit

theorem TermsAt.lit (W : World) (l : List TermD) (hl : l.length ≤ 1000) : TermsAt (W.alloc (.cells (termCells l).toArray 24)) (some ⟨W.heap.size, 0, none⟩) l :=
  TermsAt.of_row (base := 0) (ca := l.length) (World.ownsRow_lit W (termCells l).toArray l.length (Nat.zero_le _) (by unfold maxLen; omega) (by simp [termCells_len]))
/-- block b is the term t -/
def TermAt (w : World) (b : Nat) (t : TermD) : Prop := w.heap[b]? = some (.cells #[.bool t.v, .string t.name] 24)
theorem TermAt.new (w : World) (t : TermD) : TermAt (w.alloc (.cells #[.bool t.v, .string t.name] 24)) w.heap.size t := heap_alloc_new _ _
theorem TermAt.bel {w w' : World} {b : Nat} {t : TermD} (h : TermAt w b t) (hg : Bel w w') : TermAt w' b t := (hg.block b (Array.getElem?_eq_some_iff.1 h).1).trans h
theorem TermAt.cells {w : World} {b : Nat} {t : TermD} (h : TermAt w b t) : w.cell? ⟨b, 0, none⟩ = some (.bool t.v) ∧ w.cell? ⟨b, 1, none⟩ = some (.string t.name) := by
  unfold TermAt at h
  refine ⟨?_, ?_⟩ <;> simp [World.cell?, h]
theorem AtomOk.sm {a : AtomD} (h : lightA a = true) : AtomSm a := by
  unfold lightA at h
  simp only [Bool.and_eq_true, decide_eq_true_eq] at h
  exact ⟨by omega, by omega, by omega, by omega, by omega, by omega⟩
theorem str_same {a b : ByteArray} (h : a = b) : (a.toList == b.toList) = true := by rw [h]; simp
theorem str_is {a b : ByteArray} (l : List UInt8) (h : a = b) (hl : b = ⟨l.toArray⟩) : (a.toList == l) = true := by
  subst hl; subst h
  rw [ByteArray.toList_eq]; simp
set_option maxHeartbeats 400000 in
theorem c_any (s : ByteArray) (w : World) : Calls Tryd.prog 11 #[.string s] w fun e w' => e = .returned (.agg #[.bool false, .string s]) ∧ Bel w w' := by
  go_enter Tryd.func11, Tryd.ntmps11
  go_wp2
  try simp only [Exit.inBlock, Exit.then]
  refine bodyPost_ret (results_cell_row rfl _ _ w.heap.size 24 #[.bool false, .string s] (0, 0) _ rfl (heap_alloc_new _ _) Tryd.underlying24 rfl (by kernel_rfl)) rfl ?_
  exact ⟨rfl, bel_alloc _ _⟩
set_option maxHeartbeats 400000 in
theorem v_any (s : ByteArray) (w : World) : Calls Tryd.prog 12 #[.string s] w fun e w' => e = .returned (.agg #[.bool true, .string s]) ∧ Bel w w' := by
  go_enter Tryd.func12, Tryd.ntmps12
  go_wp2
  try simp only [Exit.inBlock, Exit.then]
  refine bodyPost_ret (results_cell_row rfl _ _ w.heap.size 24 #[.bool true, .string s] (0, 0) _ rfl (heap_alloc_new _ _) Tryd.underlying24 rfl (by kernel_rfl)) rfl ?_
  exact ⟨rfl, bel_alloc _ _⟩
set_option maxHeartbeats 400000 in
theorem vars_any (a : AtomD) (w : World) (l : List TermD) (hl : l = (argsD a).take (cntI a.n)) :
    Calls Tryd.prog 16 #[.agg #[.string a.says, .string a.pred, .int .i64 a.n, .bool a.t0.v, .string a.t0.name, .bool a.t1.v, .string a.t1.name, .bool a.t2.v, .string a.t2.name, .bool a.t3.v, .string a.t3.name]] w fun e w' => (∃ A c, RowKit.Hid (ListAt w' A (namesD true l).length ((namesD true l).map Value.string)) ∧ e = .returned (.slice A (namesD true l).length c)) ∧ Bel w w' := by
  have hA := AtomAt.new w a
  have hb := bel_alloc w (.cells #[.string a.says, .string a.pred, .int .i64 a.n, .bool a.t0.v, .string a.t0.name, .bool a.t1.v, .string a.t1.name, .bool a.t2.v, .string a.t2.name, .bool a.t3.v, .string a.t3.name] 27)
  have HL := Lib.hid hl
  clear hl
  go_enter Tryd.func16, Tryd.ntmps16
  go_wp2_with (go_at_call 36; refine (named_any a true _ l HL.out).mono ?_; rintro e w1 ⟨⟨A, c, hL, rfl⟩, hg⟩; have hb := hb.trans' hg)
  go_ret
  exact ⟨⟨_, _, hL, rfl⟩, hb⟩
set_option maxHeartbeats 400000 in
theorem consts_any (a : AtomD) (w : World) (l : List TermD) (hl : l = (argsD a).take (cntI a.n)) :
    Calls Tryd.prog 17 #[.agg #[.string a.says, .string a.pred, .int .i64 a.n, .bool a.t0.v, .string a.t0.name, .bool a.t1.v, .string a.t1.name, .bool a.t2.v, .string a.t2.name, .bool a.t3.v, .string a.t3.name]] w fun e w' => (∃ A c, RowKit.Hid (ListAt w' A (namesD false l).length ((namesD false l).map Value.string)) ∧ e = .returned (.slice A (namesD false l).length c)) ∧ Bel w w' := by
  have hA := AtomAt.new w a
  have hb := bel_alloc w (.cells #[.string a.says, .string a.pred, .int .i64 a.n, .bool a.t0.v, .string a.t0.name, .bool a.t1.v, .string a.t1.name, .bool a.t2.v, .string a.t2.name, .bool a.t3.v, .string a.t3.name] 27)
  have HL := Lib.hid hl
  clear hl
  go_enter Tryd.func17, Tryd.ntmps17
  go_wp2_with (go_at_call 36; refine (named_any a false _ l HL.out).mono ?_; rintro e w1 ⟨⟨A, c, hL, rfl⟩, hg⟩; have hb := hb.trans' hg)
  go_ret
  exact ⟨⟨_, _, hL, rfl⟩, hb⟩
set_option maxHeartbeats 400000 in
theorem rvars_any (a : AtomD) (w : World) (l : List TermD) (hl : l = (argsD a).take (cntI a.n)) :
    Calls Tryd.prog 26 #[.agg #[.string a.says, .string a.pred, .int .i64 a.n, .bool a.t0.v, .string a.t0.name, .bool a.t1.v, .string a.t1.name, .bool a.t2.v, .string a.t2.name, .bool a.t3.v, .string a.t3.name]] w fun e w' => (∃ A c, RowKit.Hid (ListAt w' A (namesD true l).length ((namesD true l).map Value.string)) ∧ e = .returned (.slice A (namesD true l).length c)) ∧ Bel w w' := by
  have hA := AtomAt.new w a
  have hb := bel_alloc w (.cells #[.string a.says, .string a.pred, .int .i64 a.n, .bool a.t0.v, .string a.t0.name, .bool a.t1.v, .string a.t1.name, .bool a.t2.v, .string a.t2.name, .bool a.t3.v, .string a.t3.name] 27)
  have HL := Lib.hid hl
  clear hl
  go_enter Tryd.func26, Tryd.ntmps26
  go_wp2_with (go_at_call 45; refine (rnames_any a true _ l HL.out).mono ?_; rintro e w1 ⟨⟨A, c, hL, rfl⟩, hg⟩; have hb := hb.trans' hg)
  go_ret
  exact ⟨⟨_, _, hL, rfl⟩, hb⟩
set_option maxHeartbeats 400000 in
theorem rconsts_any (a : AtomD) (w : World) (l : List TermD) (hl : l = (argsD a).take (cntI a.n)) :
    Calls Tryd.prog 27 #[.agg #[.string a.says, .string a.pred, .int .i64 a.n, .bool a.t0.v, .string a.t0.name, .bool a.t1.v, .string a.t1.name, .bool a.t2.v, .string a.t2.name, .bool a.t3.v, .string a.t3.name]] w fun e w' => (∃ A c, RowKit.Hid (ListAt w' A (namesD false l).length ((namesD false l).map Value.string)) ∧ e = .returned (.slice A (namesD false l).length c)) ∧ Bel w w' := by
  have hA := AtomAt.new w a
  have hb := bel_alloc w (.cells #[.string a.says, .string a.pred, .int .i64 a.n, .bool a.t0.v, .string a.t0.name, .bool a.t1.v, .string a.t1.name, .bool a.t2.v, .string a.t2.name, .bool a.t3.v, .string a.t3.name] 27)
  have HL := Lib.hid hl
  clear hl
  go_enter Tryd.func27, Tryd.ntmps27
  go_wp2_with (go_at_call 45; refine (rnames_any a false _ l HL.out).mono ?_; rintro e w1 ⟨⟨A, c, hL, rfl⟩, hg⟩; have hb := hb.trans' hg)
  go_ret
  exact ⟨⟨_, _, hL, rfl⟩, hb⟩
theorem live1 : madeD ⟨#[97, 108, 105, 99, 101]⟩ ⟨#[112]⟩ [⟨false, ⟨#[97]⟩⟩, ⟨true, ⟨#[88]⟩⟩] = (storedD ⟨#[97, 108, 105, 99, 101]⟩ ⟨#[112]⟩ [⟨false, ⟨#[97]⟩⟩, ⟨true, ⟨#[88]⟩⟩], 0) := made_ok (by decide) (by decide +kernel)
theorem live2 : madeD ⟨#[98, 111, 98]⟩ ⟨#[111, 112, 101, 110]⟩ [] = (storedD ⟨#[98, 111, 98]⟩ ⟨#[111, 112, 101, 110]⟩ [], 0) := made_ok (by decide) (by decide +kernel)
theorem live1_text : textD (storedD ⟨#[97, 108, 105, 99, 101]⟩ ⟨#[112]⟩ [⟨false, ⟨#[97]⟩⟩, ⟨true, ⟨#[88]⟩⟩]) = ⟨#[97, 108, 105, 99, 101, 32, 115, 97, 121, 115, 32, 112, 40, 97, 44, 32, 88, 41]⟩ := by decide +kernel
theorem live2_text : textD (storedD ⟨#[98, 111, 98]⟩ ⟨#[111, 112, 101, 110]⟩ []) = ⟨#[98, 111, 98, 32, 115, 97, 121, 115, 32, 111, 112, 101, 110]⟩ := by decide +kernel
theorem live1_sm : AtomSm (storedD ⟨#[97, 108, 105, 99, 101]⟩ ⟨#[112]⟩ [⟨false, ⟨#[97]⟩⟩, ⟨true, ⟨#[88]⟩⟩]) := ⟨by decide, by decide, by decide, by decide, by decide, by decide⟩
theorem live2_sm : AtomSm (storedD ⟨#[98, 111, 98]⟩ ⟨#[111, 112, 101, 110]⟩ []) := ⟨by decide, by decide, by decide, by decide, by decide, by decide⟩

set_option maxRecDepth 20000 in
set_option maxHeartbeats 2000000 in
theorem tlives_any (w : World) (hm : MaxAt w) : Calls Tryd.prog 8 #[] w fun e w' => e = .returned (.bool true) ∧ Bel w w' := by
  have hb : Bel w w := Below.refl _ _
  go_enter Tryd.func8, Tryd.ntmps8
  go_wp2_with (first | (go_at_call 11; refine (c_any _ _).mono ?_; rintro e w1 ⟨rfl, hg⟩; have hb := hb.trans' hg; clear hg) | (go_at_call 12; refine (v_any _ _).mono ?_; rintro e w1 ⟨rfl, hg⟩; have hb := hb.trans' hg; clear hg) | (go_at_call_of 10 (Value.string ⟨#[97, 108, 105, 99, 101]⟩); have hT := TermsAt.lit w1 [⟨false, ⟨#[97]⟩⟩, ⟨true, ⟨#[88]⟩⟩] (by simp); have hb := hb.trans' (bel_alloc w1 (.cells #[.bool false, .string ⟨#[97]⟩, .bool true, .string ⟨#[88]⟩] 24)); refine (made_any _ _ _ [⟨false, ⟨#[97]⟩⟩, ⟨true, ⟨#[88]⟩⟩] 2 _ (by decide) (by decide) hT (by simp) (by intro t ht; simp at ht; rcases ht with rfl | rfl <;> decide) (hm.bel hb)).mono ?_; rintro e w2 ⟨⟨q1, n1, hq, rfl⟩, hg⟩; obtain ⟨hq1, hn1⟩ := Prod.mk.inj (hq.out.trans live1); subst hn1; have T1 := str_is [97, 108, 105, 99, 101, 32, 115, 97, 121, 115, 32, 112, 40, 97, 44, 32, 88, 41] ((congrArg textD hq1).trans live1_text) rfl; have S1 : AtomSm q1 := hq1 ▸ live1_sm; have hA1 := AtomAt.new w2 q1; have hb := (hb.trans' hg).trans' (bel_alloc w2 (.cells #[.string q1.says, .string q1.pred, .int .i64 q1.n, .bool q1.t0.v, .string q1.t0.name, .bool q1.t1.v, .string q1.t1.name, .bool q1.t2.v, .string q1.t2.name, .bool q1.t3.v, .string q1.t3.name] 27)); clear hg hq hq1 hT) | (go_at_call 10; refine (made_any _ _ none [] 0 _ (by decide) (by decide) (TermsAt.nil _ _) (by simp) (by intro t ht; simp at ht) (hm.bel hb)).mono ?_; rintro e w3 ⟨⟨q2, n2, hq, rfl⟩, hg⟩; obtain ⟨hq2, hn2⟩ := Prod.mk.inj (hq.out.trans live2); subst hn2; have T2 := str_is [98, 111, 98, 32, 115, 97, 121, 115, 32, 111, 112, 101, 110] ((congrArg textD hq2).trans live2_text) rfl; have S2 : AtomSm q2 := hq2 ▸ live2_sm; have hA2 := AtomAt.new w3 q2; have hA1 := (hA1.bel hg).bel (bel_alloc w3 (.cells #[.string q2.says, .string q2.pred, .int .i64 q2.n, .bool q2.t0.v, .string q2.t0.name, .bool q2.t1.v, .string q2.t1.name, .bool q2.t2.v, .string q2.t2.name, .bool q2.t3.v, .string q2.t3.name] 27)); obtain ⟨c0, c1, c2, c3, c4, c5, c6, c7, c8, c9, c10⟩ := hA1.cells; have hb := (hb.trans' hg).trans' (bel_alloc w3 (.cells #[.string q2.says, .string q2.pred, .int .i64 q2.n, .bool q2.t0.v, .string q2.t0.name, .bool q2.t1.v, .string q2.t1.name, .bool q2.t2.v, .string q2.t2.name, .bool q2.t3.v, .string q2.t3.name] 27)); clear hg hq hq2))
  refine (text_any q1 _ S1).mono ?_
  generalize textD q1 = x1 at T1 ⊢
  rintro e w4 ⟨rfl, hg⟩
  have hA2 := hA2.bel hg
  obtain ⟨d0, d1, d2, d3, d4, d5, d6, d7, d8, d9, d10⟩ := hA2.cells
  have hb := hb.trans' hg
  clear hg
  go_wp2_with (fail)
  refine (text_any q2 _ S2).mono ?_
  generalize textD q2 = x2 at T2 ⊢
  rintro e w5 ⟨rfl, hg⟩
  have hb := hb.trans' hg
  clear hg
  go_wp2
  go_ret
  exact ⟨rfl, hb⟩
end Go.Proofs.YtobelhfhciafcaaDoor
