/-
  The project's check of an atom. Conditions: its strings fit; the library's variable holds some int.
-/
import Derived.Test.YtobelhfhciafcaaDoorTmE
import Derived.Deep.RegionHeld
namespace Go.Proofs.YtobelhfhciafcaaDoor
open Go.RowKit

theorem eqA_stored (a : AtomD) (k : Nat) (hk : k ≤ 4) (hn : a.n = k) : eqA a (storedD a.says a.pred ((argsD a).take k)) = zerosB ((argsD a).drop k) := by
  have hr : ∀ s : ByteArray, (s == s) = true := fun s => (ba_eq s s).2 rfl
  have ht : ∀ t : TermD, eqT t t = true := fun t => (eqT_iff t t).2 rfl
  obtain rfl | rfl | rfl | rfl | rfl : k = 0 ∨ k = 1 ∨ k = 2 ∨ k = 3 ∨ k = 4 := by omega
  all_goals simp [eqA, storedD, argsD, zerosB, hr, ht, hn]

set_option maxRecDepth 20000 in
set_option maxHeartbeats 4000000 in
theorem check_any (a : AtomD) (w : World) (ha : AtomOk a) (hm : MaxAt w) :
    Calls Tryd.prog 13 #[.agg #[.string a.says, .string a.pred, .int .i64 a.n, .bool a.t0.v, .string a.t0.name, .bool a.t1.v, .string a.t1.name, .bool a.t2.v, .string a.t2.name, .bool a.t3.v, .string a.t3.name]] w fun e w' => e = .returned (.int .i64 (checkD a)) ∧ Bel w w' := by
  have hs : ∀ t ∈ argsD a, t.name.size ≤ 9223372036854775807 := by
    intro t ht
    simp only [argsD, List.mem_cons, List.mem_nil_iff, or_false] at ht
    rcases ht with rfl | rfl | rfl | rfl
    · exact ha.t0
    · exact ha.t1
    · exact ha.t2
    · exact ha.t3
  have HS := Lib.hid hs
  clear hs
  obtain ⟨g1, g2, ⟨gn1, gn2⟩, g3, g4, g5, g6⟩ := ha
  have hA := AtomAt.new w a
  have hb := bel_alloc w (.cells #[.string a.says, .string a.pred, .int .i64 a.n, .bool a.t0.v, .string a.t0.name, .bool a.t1.v, .string a.t1.name, .bool a.t2.v, .string a.t2.name, .bool a.t3.v, .string a.t3.name] 27)
  rcases Bool.eq_false_or_eq_true (prinB a.says) with p1 | p1
  case inr =>
    have HE := Lib.hid (check_text (a := a) (by simp [p1]))
    go_enter Tryd.func13, Tryd.ntmps13
    go_wp2_with (go_at_call 30; refine (principal_any _ _ (by exact g1) (hm.bel hb)).mono ?_; rintro e w1 ⟨rfl, hg⟩; have hb := hb.trans' hg; clear hg)
    go_ret
    exact ⟨ret_int HE.out.symm, hb⟩
  rcases Bool.eq_false_or_eq_true (prinB a.pred) with p2 | p2
  case inr =>
    have HE := Lib.hid (check_text (a := a) (by simp [p2]))
    go_enter Tryd.func13, Tryd.ntmps13
    go_wp2_with (first | (go_at_call 30; refine (principal_any _ _ (by exact g1) (hm.bel hb)).mono ?_; rintro e w1 ⟨rfl, hg⟩; have hA := hA.bel hg; obtain ⟨c0, c1, c2, c3, c4, c5, c6, c7, c8, c9, c10⟩ := hA.cells; have hb := hb.trans' hg; clear hg) | (go_at_call 31; refine (predicate_any _ _ (by exact g2) (hm.bel hb)).mono ?_; rintro e w1 ⟨rfl, hg⟩; have hb := hb.trans' hg; clear hg))
    go_ret
    exact ⟨ret_int HE.out.symm, hb⟩
  have P3 := Lib.hid (show (prinB a.says && prinB a.pred) = true by simp [p1, p2])
  by_cases hn : a.n < 0 ∨ 4 < a.n
  · have HE := Lib.hid (check_long (a := a) P3.out hn)
    rcases hn with hn | hn
    case' inr => have hn0 : 0 ≤ a.n := by omega
    all_goals
      go_enter Tryd.func13, Tryd.ntmps13
      go_wp2_with (first | (go_at_call 30; refine (principal_any _ _ (by exact g1) (hm.bel hb)).mono ?_; rintro e w1 ⟨rfl, hg⟩; have hA := hA.bel hg; obtain ⟨c0, c1, c2, c3, c4, c5, c6, c7, c8, c9, c10⟩ := hA.cells; have hb := hb.trans' hg; clear hg) | (go_at_call 31; refine (predicate_any _ _ (by exact g2) (hm.bel hb)).mono ?_; rintro e w1 ⟨rfl, hg⟩; have hA := hA.bel hg; obtain ⟨c0, c1, c2, c3, c4, c5, c6, c7, c8, c9, c10⟩ := hA.cells; have hb := hb.trans' hg; clear hg))
      go_ret
      exact ⟨ret_int HE.out.symm, hb⟩
  obtain ⟨k, hk4, hk⟩ : ∃ k : Nat, k ≤ 4 ∧ a.n = k := ⟨a.n.toNat, by omega, by omega⟩
  have HC : RowKit.Hid (cntI a.n = k) := Lib.hid (by unfold cntI; omega)
  have HT := check_term (a := a) P3.out hn
  have HB := check_bad (a := a) P3.out hn
  have HO := check_ok (a := a) P3.out hn
  rw [HC.out] at HT HB HO
  have HT := Lib.hid HT
  have HB := Lib.hid HB
  have HO := Lib.hid HO
  have hl : ((argsD a).take k).length = k := by rw [List.length_take]; show min k 4 = k; omega
  have HL := Lib.hid hl
  have hs2 : ∀ t ∈ (argsD a).take k, t.name.size ≤ 9223372036854775807 := fun t ht => HS.out t (List.mem_of_mem_take ht)
  have HS2 := Lib.hid hs2
  have HQ0 := Lib.hid (eqA_stored a k hk4 hk)
  have hk0 : (0 : Int) ≤ k := by omega
  have hk1 : (k : Int) ≤ 4 := by omega
  clear hs2 hl HS hn
  obtain ⟨sa, pa, na, x0, x1, x2, x3⟩ := a
  simp only at g1 g2 g3 g4 g5 g6 gn1 gn2 hA hb hk p1 p2
  subst hk
  rcases Bool.eq_false_or_eq_true (((argsD ⟨sa, pa, k, x0, x1, x2, x3⟩).take k).all termB) with hv | hv
  case inr =>
    go_enter Tryd.func13, Tryd.ntmps13
    go_wp2_with (first | (go_at_call 30; refine (principal_any _ _ (by exact g1) (hm.bel hb)).mono ?_; rintro e w1 ⟨rfl, hg⟩; have hA := hA.bel hg; obtain ⟨c0, c1, c2, c3, c4, c5, c6, c7, c8, c9, c10⟩ := hA.cells; have hb := hb.trans' hg; clear hg) | (go_at_call 31; refine (predicate_any _ _ (by exact g2) (hm.bel hb)).mono ?_; rintro e w1 ⟨rfl, hg⟩; have hA := hA.bel hg; obtain ⟨c0, c1, c2, c3, c4, c5, c6, c7, c8, c9, c10⟩ := hA.cells; have hb := hb.trans' hg; clear hg) | (go_at_call 32; refine (valid_len _ ((argsD ⟨sa, pa, k, x0, x1, x2, x3⟩).take k) k 4 HL.out _ (hA.terms.take k) (by rw [HL.out]; omega) HS2.out (hm.bel hb)).mono ?_; rintro e w1 ⟨rfl, hg⟩; have hA := hA.bel hg; obtain ⟨c0, c1, c2, c3, c4, c5, c6, c7, c8, c9, c10⟩ := hA.cells; have hb := hb.trans' hg; clear hg))
    go_ret
    exact ⟨ret_int (HT.out hv).symm, hb⟩
  rcases Bool.eq_false_or_eq_true (zerosB ((argsD ⟨sa, pa, k, x0, x1, x2, x3⟩).drop k)) with hz | hz
  all_goals
    go_enter Tryd.func13, Tryd.ntmps13
    go_wp2_with (first | (go_at_call 30; refine (principal_any _ _ (by exact g1) (hm.bel hb)).mono ?_; rintro e w1 ⟨rfl, hg⟩; have hA := hA.bel hg; obtain ⟨c0, c1, c2, c3, c4, c5, c6, c7, c8, c9, c10⟩ := hA.cells; have hb := hb.trans' hg; clear hg) | (go_at_call 31; refine (predicate_any _ _ (by exact g2) (hm.bel hb)).mono ?_; rintro e w1 ⟨rfl, hg⟩; have hA := hA.bel hg; obtain ⟨c0, c1, c2, c3, c4, c5, c6, c7, c8, c9, c10⟩ := hA.cells; have hb := hb.trans' hg; clear hg) | (go_at_call 32; refine (valid_len _ ((argsD ⟨sa, pa, k, x0, x1, x2, x3⟩).take k) k 4 HL.out _ (hA.terms.take k) (by rw [HL.out]; omega) HS2.out (hm.bel hb)).mono ?_; rintro e w1 ⟨rfl, hg⟩; have hA := hA.bel hg; obtain ⟨c0, c1, c2, c3, c4, c5, c6, c7, c8, c9, c10⟩ := hA.cells; have hb := hb.trans' hg; clear hg))
    have hA := hA.drew
    have hb := bel_drew' hb
    go_region_held (fun w' => w'.cell? ⟨w.heap.size, 0, none⟩ = some (.string sa) ∧ w'.cell? ⟨w.heap.size, 1, none⟩ = some (.string pa) ∧ w'.cell? ⟨w.heap.size, 2, none⟩ = some (.int .i64 (k : Int)) ∧ w'.cell? ⟨w.heap.size, 3, none⟩ = some (.bool x0.v) ∧ w'.cell? ⟨w.heap.size, 4, none⟩ = some (.string x0.name) ∧ w'.cell? ⟨w.heap.size, 5, none⟩ = some (.bool x1.v) ∧ w'.cell? ⟨w.heap.size, 6, none⟩ = some (.string x1.name) ∧ w'.cell? ⟨w.heap.size, 7, none⟩ = some (.bool x2.v) ∧ w'.cell? ⟨w.heap.size, 8, none⟩ = some (.string x2.name) ∧ w'.cell? ⟨w.heap.size, 9, none⟩ = some (.bool x3.v) ∧ w'.cell? ⟨w.heap.size, 10, none⟩ = some (.string x3.name)) (exact hA.cells) ((go_at_call 29; refine (stored_any _ _ _ ((argsD ⟨sa, pa, k, x0, x1, x2, x3⟩).take k) k 4 HL.out _ (hA.terms.take k) (by rw [HL.out]; omega)).mono ?_; rintro e w1 ⟨⟨q, HQ, rfl⟩, hg⟩; have hq := neq_atom ⟨sa, pa, k, x0, x1, x2, x3⟩ q; simp only at hq; have hqe : eqA ⟨sa, pa, k, x0, x1, x2, x3⟩ q = _ := (congrArg (eqA ⟨sa, pa, k, x0, x1, x2, x3⟩) HQ.out).trans (HQ0.out.trans hz); have hA := hA.bel hg; obtain ⟨c0, c1, c2, c3, c4, c5, c6, c7, c8, c9, c10⟩ := hA.cells; have hb := hb.trans' hg; clear hg))
    all_goals go_wp2
    all_goals go_ret
    all_goals first
      | exact ⟨ret_int (HO.out hv hz).symm, hb⟩
      | exact ⟨ret_int (HB.out hv hz).symm, hb⟩
end Go.Proofs.YtobelhfhciafcaaDoor
