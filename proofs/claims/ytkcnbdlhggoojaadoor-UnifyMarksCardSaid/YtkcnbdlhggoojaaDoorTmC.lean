/-
  The reference's check of an atom. Condition: the strings of the atom fit.
-/
import Derived.Test.YtkcnbdlhggoojaaDoorTmB
namespace Go.Proofs.YtkcnbdlhggoojaaDoor
open Go.RowKit

def zerosB (l : List TermD) : Bool := l.all (fun t => eqT t zeroT)
def checkD (a : AtomD) : Int :=
  if (prinB a.says && prinB a.pred) = true then
    if a.n < 0 ∨ 4 < a.n then 4
    else if ((argsD a).take (cntI a.n)).all termB = true then
      if zerosB ((argsD a).drop (cntI a.n)) = true then 0 else 15
    else 3
  else 3
theorem cntI_0 : cntI 0 = 0 := by decide
theorem cntI_1 : cntI 1 = 1 := by decide
theorem cntI_2 : cntI 2 = 2 := by decide
theorem cntI_3 : cntI 3 = 3 := by decide
theorem cntI_4 : cntI 4 = 4 := by decide
theorem check_text {a : AtomD} (h : (prinB a.says && prinB a.pred) = false) : checkD a = 3 := by unfold checkD; rw [if_neg (by simp [h])]
theorem check_long {a : AtomD} (h : (prinB a.says && prinB a.pred) = true) (h2 : a.n < 0 ∨ 4 < a.n) : checkD a = 4 := by unfold checkD; rw [if_pos h, if_pos h2]
theorem check_term {a : AtomD} (h : (prinB a.says && prinB a.pred) = true) (h2 : ¬ (a.n < 0 ∨ 4 < a.n)) (h3 : ((argsD a).take (cntI a.n)).all termB = false) : checkD a = 3 := by unfold checkD; rw [if_pos h, if_neg h2, if_neg (by simp [h3])]
theorem check_bad {a : AtomD} (h : (prinB a.says && prinB a.pred) = true) (h2 : ¬ (a.n < 0 ∨ 4 < a.n)) (h3 : ((argsD a).take (cntI a.n)).all termB = true) (h4 : zerosB ((argsD a).drop (cntI a.n)) = false) : checkD a = 15 := by unfold checkD; rw [if_pos h, if_neg h2, if_pos h3, if_neg (by simp [h4])]
theorem check_ok {a : AtomD} (h : (prinB a.says && prinB a.pred) = true) (h2 : ¬ (a.n < 0 ∨ 4 < a.n)) (h3 : ((argsD a).take (cntI a.n)).all termB = true) (h4 : zerosB ((argsD a).drop (cntI a.n)) = true) : checkD a = 0 := by unfold checkD; rw [if_pos h, if_neg h2, if_pos h3, if_pos h4]

set_option maxRecDepth 20000 in
set_option maxHeartbeats 8000000 in
theorem rCheck_any (a : AtomD) (w : World) (ha : AtomOk a) :
    Calls Tryd.prog 15 #[.agg #[.string a.says, .string a.pred, .int .i64 a.n, .bool a.t0.v, .string a.t0.name, .bool a.t1.v, .string a.t1.name, .bool a.t2.v, .string a.t2.name, .bool a.t3.v, .string a.t3.name]] w fun e w' => e = .returned (.int .i64 (checkD a)) ∧ Bel w w' := by
  obtain ⟨g1, g2, ⟨gn1, gn2⟩, g3, g4, g5, g6⟩ := ha
  have hA := AtomAt.new w a
  have hb := bel_alloc w (.cells #[.string a.says, .string a.pred, .int .i64 a.n, .bool a.t0.v, .string a.t0.name, .bool a.t1.v, .string a.t1.name, .bool a.t2.v, .string a.t2.name, .bool a.t3.v, .string a.t3.name] 30)
  obtain ⟨s, p, n, ⟨v0, s0⟩, ⟨v1, s1⟩, ⟨v2, s2⟩, ⟨v3, s3⟩⟩ := a
  simp only at g1 g2 gn1 gn2 g3 g4 g5 g6
  rcases Bool.eq_false_or_eq_true (prinB s) with p1 | p1
  case inr =>
    have HE := Lib.hid (check_text (a := ⟨s, p, n, ⟨v0, s0⟩, ⟨v1, s1⟩, ⟨v2, s2⟩, ⟨v3, s3⟩⟩) (by simp [p1]))
    go_enter Tryd.func15, Tryd.ntmps15
    go_wp2_with (go_at_call 31; refine (rPrincipal_any _ _ (by exact g1)).mono ?_; rintro e w1 ⟨rfl, hg⟩; have hb := hb.trans' hg; clear hg)
    go_ret
    exact ⟨ret_int HE.out.symm, hb⟩
  rcases Bool.eq_false_or_eq_true (prinB p) with p2 | p2
  case inr =>
    have HE := Lib.hid (check_text (a := ⟨s, p, n, ⟨v0, s0⟩, ⟨v1, s1⟩, ⟨v2, s2⟩, ⟨v3, s3⟩⟩) (by simp [p2]))
    go_enter Tryd.func15, Tryd.ntmps15
    go_wp2_with (first | (go_at_call 31; refine (rPrincipal_any _ _ (by exact g1)).mono ?_; rintro e w1 ⟨rfl, hg⟩; have hA := hA.bel hg; obtain ⟨c0, c1, c2, c3, c4, c5, c6, c7, c8, c9, c10⟩ := hA.cells; have hb := hb.trans' hg; clear hg) | (go_at_call 32; refine (rPredicate_any _ _ (by exact g2)).mono ?_; rintro e w1 ⟨rfl, hg⟩; have hb := hb.trans' hg; clear hg))
    go_ret
    exact ⟨ret_int HE.out.symm, hb⟩
  have p3 : (prinB s && prinB p) = true := by simp [p1, p2]
  have P3 := Lib.hid p3
  clear p3
  by_cases hn : n < 0 ∨ 4 < n
  · have HE := Lib.hid (check_long (a := ⟨s, p, n, ⟨v0, s0⟩, ⟨v1, s1⟩, ⟨v2, s2⟩, ⟨v3, s3⟩⟩) P3.out hn)
    rcases hn with hn | hn
    · go_enter Tryd.func15, Tryd.ntmps15
      go_wp2_with (first | (go_at_call 31; refine (rPrincipal_any _ _ (by exact g1)).mono ?_; rintro e w1 ⟨rfl, hg⟩; have hA := hA.bel hg; obtain ⟨c0, c1, c2, c3, c4, c5, c6, c7, c8, c9, c10⟩ := hA.cells; have hb := hb.trans' hg; clear hg) | (go_at_call 32; refine (rPredicate_any _ _ (by exact g2)).mono ?_; rintro e w1 ⟨rfl, hg⟩; have hA := hA.bel hg; obtain ⟨c0, c1, c2, c3, c4, c5, c6, c7, c8, c9, c10⟩ := hA.cells; have hb := hb.trans' hg; clear hg))
      go_ret
      exact ⟨ret_int HE.out.symm, hb⟩
    · have hn0 : 0 ≤ n := by omega
      go_enter Tryd.func15, Tryd.ntmps15
      go_wp2_with (first | (go_at_call 31; refine (rPrincipal_any _ _ (by exact g1)).mono ?_; rintro e w1 ⟨rfl, hg⟩; have hA := hA.bel hg; obtain ⟨c0, c1, c2, c3, c4, c5, c6, c7, c8, c9, c10⟩ := hA.cells; have hb := hb.trans' hg; clear hg) | (go_at_call 32; refine (rPredicate_any _ _ (by exact g2)).mono ?_; rintro e w1 ⟨rfl, hg⟩; have hA := hA.bel hg; obtain ⟨c0, c1, c2, c3, c4, c5, c6, c7, c8, c9, c10⟩ := hA.cells; have hb := hb.trans' hg; clear hg))
      go_ret
      exact ⟨ret_int HE.out.symm, hb⟩
  have hq := neq_term
  have HT := Lib.hid (check_term (a := ⟨s, p, n, ⟨v0, s0⟩, ⟨v1, s1⟩, ⟨v2, s2⟩, ⟨v3, s3⟩⟩) P3.out hn)
  have HB := Lib.hid (check_bad (a := ⟨s, p, n, ⟨v0, s0⟩, ⟨v1, s1⟩, ⟨v2, s2⟩, ⟨v3, s3⟩⟩) P3.out hn)
  have HO := Lib.hid (check_ok (a := ⟨s, p, n, ⟨v0, s0⟩, ⟨v1, s1⟩, ⟨v2, s2⟩, ⟨v3, s3⟩⟩) P3.out hn)
  obtain rfl | rfl | rfl | rfl | rfl : n = 0 ∨ n = 1 ∨ n = 2 ∨ n = 3 ∨ n = 4 := by omega
  all_goals
    clear hn gn1 gn2
    go_enter Tryd.func15, Tryd.ntmps15
    go_wp2_with (first | (go_at_call 31; refine (rPrincipal_any _ _ (by exact g1)).mono ?_; rintro e w1 ⟨rfl, hg⟩; have hA := hA.bel hg; obtain ⟨c0, c1, c2, c3, c4, c5, c6, c7, c8, c9, c10⟩ := hA.cells; have hb := hb.trans' hg; clear hg) | (go_at_call 32; refine (rPredicate_any _ _ (by exact g2)).mono ?_; rintro e w1 ⟨rfl, hg⟩; have hA := hA.bel hg; obtain ⟨c0, c1, c2, c3, c4, c5, c6, c7, c8, c9, c10⟩ := hA.cells; have hb := hb.trans' hg; clear hg))
    refine wp_loop_rounds 5 ?_
    repeat any_goals (rw [rounds_succ]; go_wp2_with (go_at_call 33; refine (rTerm_any _ _ _ (by first | exact g3 | exact g4 | exact g5 | exact g6)).mono ?_; rintro e w1 ⟨rfl, hg⟩; have hA := hA.bel hg; obtain ⟨c0, c1, c2, c3, c4, c5, c6, c7, c8, c9, c10⟩ := hA.cells; have hb := hb.trans' hg; clear hg))
    any_goals (refine wp_loop_rounds 5 ?_; repeat any_goals (rw [rounds_succ]; go_wp2))
    all_goals go_ret
    all_goals
      refine ⟨ret_int ?_, hb⟩
      clear hA hb hq
      try simp only [Bool.not_eq_false', Bool.not_eq_true'] at *
      first | (refine (HT.out ?_).symm; simp [argsD, cntI_1, cntI_2, cntI_3, cntI_4, *]; done) | (refine (HB.out ?_ ?_).symm <;> (simp [argsD, cntI_0, cntI_1, cntI_2, cntI_3, zerosB, zeroT, *]; done)) | (refine (HO.out ?_ ?_).symm <;> (simp [argsD, cntI_0, cntI_1, cntI_2, cntI_3, cntI_4, zerosB, zeroT, *]; done))
end Go.Proofs.YtkcnbdlhggoojaaDoor
