/-
  The law UnifyMost for every input. Conditions: what came in lies as its parameters' types say.
-/
import Derived.Test.YtkcnbdlhggoojaaUnG
import Derived.Test.YtkcnbdlhggoojaaUnK
namespace Go.Proofs.Ytkcnbdlhggoojaa
open Go.RowKit

set_option maxRecDepth 20000 in
set_option maxHeartbeats 16000000 in
theorem lawUnifyMost (a b : AtomD) (A : Option Addr) (l : List BindD) (ca : Nat) (w : World) (hak : AtomOk a) (hbk : AtomOk b) (hL : BL w A ca l) (hll : l.length ≤ 9223372036854775807) (hkl : BindsOk l) :
    Calls Try.prog 3 #[.agg #[.string a.says, .string a.pred, .int .i64 a.n, .bool a.t0.v, .string a.t0.name, .bool a.t1.v, .string a.t1.name, .bool a.t2.v, .string a.t2.name, .bool a.t3.v, .string a.t3.name], .agg #[.string b.says, .string b.pred, .int .i64 b.n, .bool b.t0.v, .string b.t0.name, .bool b.t1.v, .string b.t1.name, .bool b.t2.v, .string b.t2.name, .bool b.t3.v, .string b.t3.name], .slice A l.length ca] w fun e w' => e = .returned (.bool true) ∧ Bel w w' := by
  have hP := AtomAt.new w a
  replace hP := hP.bel (bel_alloc (w.alloc (.cells #[.string a.says, .string a.pred, .int .i64 a.n, .bool a.t0.v, .string a.t0.name, .bool a.t1.v, .string a.t1.name, .bool a.t2.v, .string a.t2.name, .bool a.t3.v, .string a.t3.name] 26)) (.cells #[.string b.says, .string b.pred, .int .i64 b.n, .bool b.t0.v, .string b.t0.name, .bool b.t1.v, .string b.t1.name, .bool b.t2.v, .string b.t2.name, .bool b.t3.v, .string b.t3.name] 26))
  have hG := AtomAt.new (w.alloc (.cells #[.string a.says, .string a.pred, .int .i64 a.n, .bool a.t0.v, .string a.t0.name, .bool a.t1.v, .string a.t1.name, .bool a.t2.v, .string a.t2.name, .bool a.t3.v, .string a.t3.name] 26)) b
  rw [show (w.alloc (.cells #[.string a.says, .string a.pred, .int .i64 a.n, .bool a.t0.v, .string a.t0.name, .bool a.t1.v, .string a.t1.name, .bool a.t2.v, .string a.t2.name, .bool a.t3.v, .string a.t3.name] 26)).heap.size = w.heap.size + 1 by simp] at hG
  have hb := (bel_alloc w (.cells #[.string a.says, .string a.pred, .int .i64 a.n, .bool a.t0.v, .string a.t0.name, .bool a.t1.v, .string a.t1.name, .bool a.t2.v, .string a.t2.name, .bool a.t3.v, .string a.t3.name] 26)).trans' (bel_alloc (w.alloc (.cells #[.string a.says, .string a.pred, .int .i64 a.n, .bool a.t0.v, .string a.t0.name, .bool a.t1.v, .string a.t1.name, .bool a.t2.v, .string a.t2.name, .bool a.t3.v, .string a.t3.name] 26)) (.cells #[.string b.says, .string b.pred, .int .i64 b.n, .bool b.t0.v, .string b.t0.name, .bool b.t1.v, .string b.t1.name, .bool b.t2.v, .string b.t2.name, .bool b.t3.v, .string b.t3.name] 26))
  have HL := Lib.hid hL
  have HKL := Lib.hid hkl
  clear hL hkl
  have hLl := Lib.hid (fun W (hg : Bel w W) => lightBs_any A l ca W (HL.out.bel hg) hll HKL.out)
  have hLa := Lib.hid (fun W => light_any a W hak)
  have hKa := Lib.hid (fun W => rCheck_any a W hak)
  have hLb := Lib.hid (fun W => light_any b W hbk)
  have hKb := Lib.hid (fun W => rCheck_any b W hbk)
  cases q0 : lightA a
  case false =>
    rw [q0] at hLa
    clear q0
    go_enter Try.func3, Try.ntmps3
    go_wp2_with (fail)
    refine (lives6_any _).mono ?_
    rintro e w1 ⟨rfl, hg⟩
    replace hP := hP.bel hg
    replace hG := hG.bel hg
    replace hb := hb.trans' hg
    clear hg
    obtain ⟨c0, c1, c2, c3, c4, c5, c6, c7, c8, c9, c10⟩ := hP.cells
    go_wp2_with (fail)
    refine (hLa.out _).mono ?_
    rintro e w2 ⟨rfl, hg⟩
    replace hP := hP.bel hg
    replace hG := hG.bel hg
    replace hb := hb.trans' hg
    clear hg
    clear c0 c1 c2 c3 c4 c5 c6 c7 c8 c9 c10
    obtain ⟨c0, c1, c2, c3, c4, c5, c6, c7, c8, c9, c10⟩ := hG.cells
    go_wp2
    go_ret
    exact ⟨rfl, hb⟩
  rw [q0] at hLa
  cases q1 : lightA b
  case false =>
    rw [q1] at hLb
    clear q1 q0
    go_enter Try.func3, Try.ntmps3
    go_wp2_with (fail)
    refine (lives6_any _).mono ?_
    rintro e w1 ⟨rfl, hg⟩
    replace hP := hP.bel hg
    replace hG := hG.bel hg
    replace hb := hb.trans' hg
    clear hg
    obtain ⟨c0, c1, c2, c3, c4, c5, c6, c7, c8, c9, c10⟩ := hP.cells
    go_wp2_with (fail)
    refine (hLa.out _).mono ?_
    rintro e w2 ⟨rfl, hg⟩
    replace hP := hP.bel hg
    replace hG := hG.bel hg
    replace hb := hb.trans' hg
    clear hg
    clear c0 c1 c2 c3 c4 c5 c6 c7 c8 c9 c10
    obtain ⟨c0, c1, c2, c3, c4, c5, c6, c7, c8, c9, c10⟩ := hG.cells
    go_wp2_with (fail)
    refine (hLb.out _).mono ?_
    rintro e w3 ⟨rfl, hg⟩
    replace hP := hP.bel hg
    replace hG := hG.bel hg
    replace hb := hb.trans' hg
    clear hg
    clear c0 c1 c2 c3 c4 c5 c6 c7 c8 c9 c10
    go_wp2
    go_ret
    exact ⟨rfl, hb⟩
  rw [q1] at hLb
  cases q2 : lightBs l
  case false =>
    rw [q2] at hLl
    clear q2 q0 q1
    go_enter Try.func3, Try.ntmps3
    go_wp2_with (fail)
    refine (lives6_any _).mono ?_
    rintro e w1 ⟨rfl, hg⟩
    replace hP := hP.bel hg
    replace hG := hG.bel hg
    replace hb := hb.trans' hg
    clear hg
    obtain ⟨c0, c1, c2, c3, c4, c5, c6, c7, c8, c9, c10⟩ := hP.cells
    go_wp2_with (fail)
    refine (hLa.out _).mono ?_
    rintro e w2 ⟨rfl, hg⟩
    replace hP := hP.bel hg
    replace hG := hG.bel hg
    replace hb := hb.trans' hg
    clear hg
    clear c0 c1 c2 c3 c4 c5 c6 c7 c8 c9 c10
    obtain ⟨c0, c1, c2, c3, c4, c5, c6, c7, c8, c9, c10⟩ := hG.cells
    go_wp2_with (fail)
    refine (hLb.out _).mono ?_
    rintro e w3 ⟨rfl, hg⟩
    replace hP := hP.bel hg
    replace hG := hG.bel hg
    replace hb := hb.trans' hg
    clear hg
    clear c0 c1 c2 c3 c4 c5 c6 c7 c8 c9 c10
    go_wp2_with (fail)
    refine (hLl.out _ hb).mono ?_
    rintro e w4 ⟨rfl, hg⟩
    replace hP := hP.bel hg
    replace hG := hG.bel hg
    replace hb := hb.trans' hg
    clear hg
    obtain ⟨c0, c1, c2, c3, c4, c5, c6, c7, c8, c9, c10⟩ := hP.cells
    go_wp2
    go_ret
    exact ⟨rfl, hb⟩
  rw [q2] at hLl
  by_cases q3 : checkD a = 0
  case neg =>
    have hz : (checkD a != 0) = true := by simpa using q3
    have hz2 : (checkD a == 0) = false := by simpa using q3
    clear q0 q1 q2 q3
    go_enter Try.func3, Try.ntmps3
    go_wp2_with (fail)
    refine (lives6_any _).mono ?_
    rintro e w1 ⟨rfl, hg⟩
    replace hP := hP.bel hg
    replace hG := hG.bel hg
    replace hb := hb.trans' hg
    clear hg
    obtain ⟨c0, c1, c2, c3, c4, c5, c6, c7, c8, c9, c10⟩ := hP.cells
    go_wp2_with (fail)
    refine (hLa.out _).mono ?_
    rintro e w2 ⟨rfl, hg⟩
    replace hP := hP.bel hg
    replace hG := hG.bel hg
    replace hb := hb.trans' hg
    clear hg
    clear c0 c1 c2 c3 c4 c5 c6 c7 c8 c9 c10
    obtain ⟨c0, c1, c2, c3, c4, c5, c6, c7, c8, c9, c10⟩ := hG.cells
    go_wp2_with (fail)
    refine (hLb.out _).mono ?_
    rintro e w3 ⟨rfl, hg⟩
    replace hP := hP.bel hg
    replace hG := hG.bel hg
    replace hb := hb.trans' hg
    clear hg
    clear c0 c1 c2 c3 c4 c5 c6 c7 c8 c9 c10
    go_wp2_with (fail)
    refine (hLl.out _ hb).mono ?_
    rintro e w4 ⟨rfl, hg⟩
    replace hP := hP.bel hg
    replace hG := hG.bel hg
    replace hb := hb.trans' hg
    clear hg
    obtain ⟨c0, c1, c2, c3, c4, c5, c6, c7, c8, c9, c10⟩ := hP.cells
    go_wp2_with (fail)
    refine (hKa.out _).mono ?_
    rintro e w5 ⟨rfl, hg⟩
    replace hP := hP.bel hg
    replace hG := hG.bel hg
    replace hb := hb.trans' hg
    clear hg
    clear c0 c1 c2 c3 c4 c5 c6 c7 c8 c9 c10
    obtain ⟨c0, c1, c2, c3, c4, c5, c6, c7, c8, c9, c10⟩ := hG.cells
    go_wp2
    go_ret
    exact ⟨rfl, hb⟩
  rw [q3] at hKa
  by_cases q4 : checkD b = 0
  case neg =>
    have hz : (checkD b != 0) = true := by simpa using q4
    have hz2 : (checkD b == 0) = false := by simpa using q4
    clear q0 q1 q2 q3 q4
    go_enter Try.func3, Try.ntmps3
    go_wp2_with (fail)
    refine (lives6_any _).mono ?_
    rintro e w1 ⟨rfl, hg⟩
    replace hP := hP.bel hg
    replace hG := hG.bel hg
    replace hb := hb.trans' hg
    clear hg
    obtain ⟨c0, c1, c2, c3, c4, c5, c6, c7, c8, c9, c10⟩ := hP.cells
    go_wp2_with (fail)
    refine (hLa.out _).mono ?_
    rintro e w2 ⟨rfl, hg⟩
    replace hP := hP.bel hg
    replace hG := hG.bel hg
    replace hb := hb.trans' hg
    clear hg
    clear c0 c1 c2 c3 c4 c5 c6 c7 c8 c9 c10
    obtain ⟨c0, c1, c2, c3, c4, c5, c6, c7, c8, c9, c10⟩ := hG.cells
    go_wp2_with (fail)
    refine (hLb.out _).mono ?_
    rintro e w3 ⟨rfl, hg⟩
    replace hP := hP.bel hg
    replace hG := hG.bel hg
    replace hb := hb.trans' hg
    clear hg
    clear c0 c1 c2 c3 c4 c5 c6 c7 c8 c9 c10
    go_wp2_with (fail)
    refine (hLl.out _ hb).mono ?_
    rintro e w4 ⟨rfl, hg⟩
    replace hP := hP.bel hg
    replace hG := hG.bel hg
    replace hb := hb.trans' hg
    clear hg
    obtain ⟨c0, c1, c2, c3, c4, c5, c6, c7, c8, c9, c10⟩ := hP.cells
    go_wp2_with (fail)
    refine (hKa.out _).mono ?_
    rintro e w5 ⟨rfl, hg⟩
    replace hP := hP.bel hg
    replace hG := hG.bel hg
    replace hb := hb.trans' hg
    clear hg
    clear c0 c1 c2 c3 c4 c5 c6 c7 c8 c9 c10
    obtain ⟨c0, c1, c2, c3, c4, c5, c6, c7, c8, c9, c10⟩ := hG.cells
    go_wp2_with (fail)
    refine (hKb.out _).mono ?_
    rintro e w6 ⟨rfl, hg⟩
    replace hP := hP.bel hg
    replace hG := hG.bel hg
    replace hb := hb.trans' hg
    clear hg
    clear c0 c1 c2 c3 c4 c5 c6 c7 c8 c9 c10
    obtain ⟨c0, c1, c2, c3, c4, c5, c6, c7, c8, c9, c10⟩ := hP.cells
    obtain ⟨d0, d1, d2, d3, d4, d5, d6, d7, d8, d9, d10⟩ := hG.cells
    go_wp2
    go_ret
    exact ⟨rfl, hb⟩
  rw [q4] at hKb
  have hl20 : l.length ≤ 20 := by
    have := q2
    unfold lightBs at this
    simp only [Bool.and_eq_true, decide_eq_true_eq] at this
    omega
  have HCA := Lib.hid q3
  have HCB := Lib.hid q4
  clear q0 q1 q2 q3 q4
  have hU1 := Lib.hid (fun W => Unify_any a b W)
  have hU2 := Lib.hid (fun W => Unify_any b a W)
  go_enter Try.func3, Try.ntmps3
  go_wp2_with (fail)
  refine (lives6_any _).mono ?_
  rintro e w1 ⟨rfl, hg⟩
  replace hP := hP.bel hg
  replace hG := hG.bel hg
  replace hb := hb.trans' hg
  clear hg
  obtain ⟨c0, c1, c2, c3, c4, c5, c6, c7, c8, c9, c10⟩ := hP.cells
  go_wp2_with (fail)
  refine (hLa.out _).mono ?_
  rintro e w2 ⟨rfl, hg⟩
  replace hP := hP.bel hg
  replace hG := hG.bel hg
  replace hb := hb.trans' hg
  clear hg
  clear c0 c1 c2 c3 c4 c5 c6 c7 c8 c9 c10
  obtain ⟨c0, c1, c2, c3, c4, c5, c6, c7, c8, c9, c10⟩ := hG.cells
  go_wp2_with (fail)
  refine (hLb.out _).mono ?_
  rintro e w3 ⟨rfl, hg⟩
  replace hP := hP.bel hg
  replace hG := hG.bel hg
  replace hb := hb.trans' hg
  clear hg
  clear c0 c1 c2 c3 c4 c5 c6 c7 c8 c9 c10
  go_wp2_with (fail)
  refine (hLl.out _ hb).mono ?_
  rintro e w4 ⟨rfl, hg⟩
  replace hP := hP.bel hg
  replace hG := hG.bel hg
  replace hb := hb.trans' hg
  clear hg
  obtain ⟨c0, c1, c2, c3, c4, c5, c6, c7, c8, c9, c10⟩ := hP.cells
  go_wp2_with (fail)
  refine (hKa.out _).mono ?_
  rintro e w5 ⟨rfl, hg⟩
  replace hP := hP.bel hg
  replace hG := hG.bel hg
  replace hb := hb.trans' hg
  clear hg
  clear c0 c1 c2 c3 c4 c5 c6 c7 c8 c9 c10
  obtain ⟨c0, c1, c2, c3, c4, c5, c6, c7, c8, c9, c10⟩ := hG.cells
  go_wp2_with (fail)
  refine (hKb.out _).mono ?_
  rintro e w6 ⟨rfl, hg⟩
  replace hP := hP.bel hg
  replace hG := hG.bel hg
  replace hb := hb.trans' hg
  clear hg
  clear c0 c1 c2 c3 c4 c5 c6 c7 c8 c9 c10
  obtain ⟨c0, c1, c2, c3, c4, c5, c6, c7, c8, c9, c10⟩ := hP.cells
  obtain ⟨d0, d1, d2, d3, d4, d5, d6, d7, d8, d9, d10⟩ := hG.cells
  go_wp2_with (fail)
  refine (hU1.out _).mono ?_
  rintro e w7 ⟨⟨q6, k6, m, is, HE, HM, rfl⟩, hg⟩
  replace hP := hP.bel hg
  replace hG := hG.bel hg
  replace hb := hb.trans' hg
  clear hg
  clear c0 c1 c2 c3 c4 c5 c6 c7 c8 c9 c10
  clear d0 d1 d2 d3 d4 d5 d6 d7 d8 d9 d10
  obtain ⟨c0, c1, c2, c3, c4, c5, c6, c7, c8, c9, c10⟩ := hG.cells
  obtain ⟨d0, d1, d2, d3, d4, d5, d6, d7, d8, d9, d10⟩ := hP.cells
  go_wp2_with (fail)
  refine (hU2.out _).mono ?_
  rintro e w8 ⟨⟨q7, k7, n, ok, HF, HN, rfl⟩, hg⟩
  replace hP := hP.bel hg
  replace hG := hG.bel hg
  replace HM := Lib.hid (HM.out.bel hg)
  replace hb := hb.trans' hg
  clear hg
  clear c0 c1 c2 c3 c4 c5 c6 c7 c8 c9 c10
  clear d0 d1 d2 d3 d4 d5 d6 d7 d8 d9 d10
  obtain ⟨rfl, rfl⟩ := Prod.mk.inj (HE.out.trans ((uniR_symm a b).trans HF.out.symm))
  have hm4 := uniR_len HE.out
  have hq : (is != is) = false := by simp
  have hq2 : (is == is) = true := by simp
  have hS := Lib.hid (fun W (h1 : BL W q6 k6 m) (h2 : BL W q7 k7 m) => sameB2_any q6 m m.length k6 rfl q7 m m.length k7 rfl rfl W h1 h2 (by omega))
  clear hLa hLb hLl hKa hKb hU1 hU2
  go_wp2_with (fail)
  refine (hS.out _ HM.out HN.out).mono ?_
  rintro e w9 ⟨rfl, hg⟩
  replace hP := hP.bel hg
  replace hG := hG.bel hg
  replace HM := Lib.hid (HM.out.bel hg)
  replace hb := hb.trans' hg
  clear hg
  obtain ⟨c0, c1, c2, c3, c4, c5, c6, c7, c8, c9, c10⟩ := hP.cells
  obtain ⟨d0, d1, d2, d3, d4, d5, d6, d7, d8, d9, d10⟩ := hG.cells
  clear hS HN hq hq2
  have HB0 := Lib.hid hb
  have HP0 := Lib.hid hP
  have HG0 := Lib.hid hG
  have hAm := Lib.hid (fun W (hg : Bel w9 W) (x : AtomD) => rApply_any q6 m k6 x W (HM.out.bel hg) (by omega))
  have hAl := Lib.hid (fun W (hg : Bel w9 W) (x : AtomD) => rApply_any A l ca x W (HL.out.bel (HB0.out.trans' hg)) (by omega))
  clear hb hP hG
  go_upto_region 9 with fail
  go_cut [73] (fun s73 wx => s73 = .bool false ∧ RowKit.Hid (Bel w9 wx))
  case first =>
    cases is
    · go_quiet (fail)
      (try go_wp2_with fail)
      go_meet
      exact ⟨rfl, Lib.hid (by first | exact Below.refl _ _ | exact bel_drewN _ _ | exact bel_drew' (Below.refl _ _))⟩
    have HUS := Lib.hid (uniR_some HE.out)
    have hC4 := Lib.hid (fun W (hg : Bel w9 W) => rCheck4_any q6 m m.length k6 rfl W (HM.out.bel hg) (by omega))
    rw [errB_ok (uni_facts HUS.out).check] at hC4
    have hA1 := Lib.hid (fun W (hg : Bel w9 W) => hAm.out W hg a)
    have hA2 := Lib.hid (fun W (hg : Bel w9 W) => hAm.out W hg b)
    rw [← uni_apply (zerosF HCA.out) (zerosF HCB.out) HUS.out] at hA2
    obtain ⟨z, hz⟩ : ∃ z, z = applyA m a := ⟨_, rfl⟩
    rw [← hz] at hA1 hA2
    have hqe : eqA z z = true := (eqA_iff _ _).2 rfl
    have hqn := neq_atom z z
    rw [hqe] at hqn
    clear hqe hz hAm hAl
    have hd : Bel w9 w9.drew := bel_drew' (Below.refl _ _)
    have hP := HP0.out.drew
    have hG := HG0.out.drew
    go_region_held3 (fun w' => (w'.cell? ⟨w.heap.size, 0, none⟩ = some (.string a.says) ∧ w'.cell? ⟨w.heap.size, 1, none⟩ = some (.string a.pred) ∧ w'.cell? ⟨w.heap.size, 2, none⟩ = some (.int .i64 a.n) ∧ w'.cell? ⟨w.heap.size, 3, none⟩ = some (.bool a.t0.v) ∧ w'.cell? ⟨w.heap.size, 4, none⟩ = some (.string a.t0.name) ∧ w'.cell? ⟨w.heap.size, 5, none⟩ = some (.bool a.t1.v) ∧ w'.cell? ⟨w.heap.size, 6, none⟩ = some (.string a.t1.name) ∧ w'.cell? ⟨w.heap.size, 7, none⟩ = some (.bool a.t2.v) ∧ w'.cell? ⟨w.heap.size, 8, none⟩ = some (.string a.t2.name) ∧ w'.cell? ⟨w.heap.size, 9, none⟩ = some (.bool a.t3.v) ∧ w'.cell? ⟨w.heap.size, 10, none⟩ = some (.string a.t3.name)) ∧ (w'.cell? ⟨w.heap.size + 1, 0, none⟩ = some (.string b.says) ∧ w'.cell? ⟨w.heap.size + 1, 1, none⟩ = some (.string b.pred) ∧ w'.cell? ⟨w.heap.size + 1, 2, none⟩ = some (.int .i64 b.n) ∧ w'.cell? ⟨w.heap.size + 1, 3, none⟩ = some (.bool b.t0.v) ∧ w'.cell? ⟨w.heap.size + 1, 4, none⟩ = some (.string b.t0.name) ∧ w'.cell? ⟨w.heap.size + 1, 5, none⟩ = some (.bool b.t1.v) ∧ w'.cell? ⟨w.heap.size + 1, 6, none⟩ = some (.string b.t1.name) ∧ w'.cell? ⟨w.heap.size + 1, 7, none⟩ = some (.bool b.t2.v) ∧ w'.cell? ⟨w.heap.size + 1, 8, none⟩ = some (.string b.t2.name) ∧ w'.cell? ⟨w.heap.size + 1, 9, none⟩ = some (.bool b.t3.v) ∧ w'.cell? ⟨w.heap.size + 1, 10, none⟩ = some (.string b.t3.name))) (first | exact ⟨hP.cells, hG.cells⟩ | go_keep | trivial)
      (first | (go_at_call 11; refine (hC4.out _ hd).mono ?_; rintro e w20 ⟨rfl, hg⟩; replace hP := hP.bel hg; replace hG := hG.bel hg; replace hd := hd.trans' hg; clear hg) | (go_at_call 12; refine (hA1.out _ hd).mono ?_; rintro e w20 ⟨⟨y1, HY1, rfl⟩, hg⟩; obtain rfl := HY1.out.symm; clear hA1; replace hP := hP.bel hg; replace hG := hG.bel hg; replace hd := hd.trans' hg; clear hg) | (go_at_call 12; refine (hA2.out _ hd).mono ?_; rintro e w20 ⟨⟨y1, HY1, rfl⟩, hg⟩; obtain rfl := HY1.out.symm; replace hP := hP.bel hg; replace hG := hG.bel hg; replace hd := hd.trans' hg; clear hg))
    all_goals (go_wp2_with fail; go_meet)
    all_goals exact ⟨rfl, Lib.hid hd⟩
  obtain ⟨rfl, HC⟩ := hcut
  have HB1 := Lib.hid (HB0.out.trans' HC.out)
  have HP1 := Lib.hid (HP0.out.bel HC.out)
  have HG1 := Lib.hid (HG0.out.bel HC.out)
  clear c0 c1 c2 c3 c4 c5 c6 c7 c8 c9 c10 d0 d1 d2 d3 d4 d5 d6 d7 d8 d9 d10
  have hX1 := Lib.hid (fun W (hg : Bel wc W) => hAl.out W (HC.out.trans' hg) a)
  have hX2 := Lib.hid (fun W (hg : Bel wc W) => hAl.out W (HC.out.trans' hg) b)
  go_upto_region 11 with fail
  go_cut [11, 12] (fun s11 s12 wx => ∃ (b11 b12 : Nat) (x y : AtomD), s11 = .pointer (some ⟨b11, 0, none⟩) ∧ s12 = .pointer (some ⟨b12, 0, none⟩) ∧ RowKit.Hid (x = applyA l a ∧ y = applyA l b ∧ AtomAt wx b11 x ∧ AtomAt wx b12 y ∧ Bel wc wx))
  case first =>
    clear hAm hAl
    clear HE HCA HCB HM hm4 hl20 HKL hll
    apply cutL2
    · intro key
      refine wp_region_held_drew (S := (fun w' => (w'.cell? ⟨w.heap.size, 0, none⟩ = some (.string a.says) ∧ w'.cell? ⟨w.heap.size, 1, none⟩ = some (.string a.pred) ∧ w'.cell? ⟨w.heap.size, 2, none⟩ = some (.int .i64 a.n) ∧ w'.cell? ⟨w.heap.size, 3, none⟩ = some (.bool a.t0.v) ∧ w'.cell? ⟨w.heap.size, 4, none⟩ = some (.string a.t0.name) ∧ w'.cell? ⟨w.heap.size, 5, none⟩ = some (.bool a.t1.v) ∧ w'.cell? ⟨w.heap.size, 6, none⟩ = some (.string a.t1.name) ∧ w'.cell? ⟨w.heap.size, 7, none⟩ = some (.bool a.t2.v) ∧ w'.cell? ⟨w.heap.size, 8, none⟩ = some (.string a.t2.name) ∧ w'.cell? ⟨w.heap.size, 9, none⟩ = some (.bool a.t3.v) ∧ w'.cell? ⟨w.heap.size, 10, none⟩ = some (.string a.t3.name)) ∧ (w'.cell? ⟨w.heap.size + 1, 0, none⟩ = some (.string b.says) ∧ w'.cell? ⟨w.heap.size + 1, 1, none⟩ = some (.string b.pred) ∧ w'.cell? ⟨w.heap.size + 1, 2, none⟩ = some (.int .i64 b.n) ∧ w'.cell? ⟨w.heap.size + 1, 3, none⟩ = some (.bool b.t0.v) ∧ w'.cell? ⟨w.heap.size + 1, 4, none⟩ = some (.string b.t0.name) ∧ w'.cell? ⟨w.heap.size + 1, 5, none⟩ = some (.bool b.t1.v) ∧ w'.cell? ⟨w.heap.size + 1, 6, none⟩ = some (.string b.t1.name) ∧ w'.cell? ⟨w.heap.size + 1, 7, none⟩ = some (.bool b.t2.v) ∧ w'.cell? ⟨w.heap.size + 1, 8, none⟩ = some (.string b.t2.name) ∧ w'.cell? ⟨w.heap.size + 1, 9, none⟩ = some (.bool b.t3.v) ∧ w'.cell? ⟨w.heap.size + 1, 10, none⟩ = some (.string b.t3.name)))) (by kernel_rfl) (⟨(HP1.out.drew).cells, (HG1.out.drew).cells⟩) (fun hHeld => ?_)
      have hA0 := HP1.out.drew; have hB0 := HG1.out.drew; have hd0 : Bel wc wc.drew := bel_drew' (Below.refl _ _)
      obtain ⟨wD, hD⟩ : ∃ x, x = wc.drew := ⟨_, rfl⟩
      rw [← hD] at hA0 hB0 hd0 hHeld ⊢
      clear hD
      refine wpAnyH_take (i := 0) (oi := { dst := some 74, op := Go.Op.move (Go.Operand.tmp 2), type := 27, pos := "law.go:75", after := #[], guard := none }) (v := ?_) rfl (by kernel_rfl) (by kernel_rfl) (by kernel_rfl) (fun _ _ _ h => h) (Or.inl ⟨by rfl, ?_⟩) hHeld ?_
      rotate_left
      · (intro w hSw; (try dsimp only at hSw); go_simp)
        all_goals with_reducible rfl
      try simp only [Act.put, List.setIfInBounds_toArray, List.set_cons_zero, List.set_cons_succ]
      refine wpAnyH_take (i := 1) (oi := { dst := some 75, op := Go.Op.load 26 (Go.Operand.tmp 3), type := 26, pos := "law.go:75", after := #[], guard := none }) (v := ?_) rfl (by kernel_rfl) (by kernel_rfl) (by kernel_rfl) (fun _ _ _ h => h) (Or.inl ⟨by rfl, ?_⟩) hHeld ?_
      rotate_left
      · (intro w hSw; (try dsimp only at hSw); go_simp)
        all_goals with_reducible rfl
      try simp only [Act.put, List.setIfInBounds_toArray, List.set_cons_zero, List.set_cons_succ]
      refine wpAnyH_take (i := 3) (oi := { dst := some 77, op := Go.Op.move (Go.Operand.tmp 2), type := 27, pos := "law.go:75", after := #[], guard := none }) (v := ?_) rfl (by kernel_rfl) (by kernel_rfl) (by kernel_rfl) (fun _ _ _ h => h) (Or.inl ⟨by rfl, ?_⟩) hHeld ?_
      rotate_left
      · (intro w hSw; (try dsimp only at hSw); go_simp)
        all_goals with_reducible rfl
      try simp only [Act.put, List.setIfInBounds_toArray, List.set_cons_zero, List.set_cons_succ]
      refine wpAnyH_take (i := 4) (oi := { dst := some 78, op := Go.Op.load 26 (Go.Operand.tmp 4), type := 26, pos := "law.go:75", after := #[], guard := none }) (v := ?_) rfl (by kernel_rfl) (by kernel_rfl) (by kernel_rfl) (fun _ _ _ h => h) (Or.inl ⟨by rfl, ?_⟩) hHeld ?_
      rotate_left
      · (intro w hSw; (try dsimp only at hSw); go_simp)
        all_goals with_reducible rfl
      try simp only [Act.put, List.setIfInBounds_toArray, List.set_cons_zero, List.set_cons_succ]
      clear hHeld
      refine wpAnyH_ready (rs := [2, 6, 7]) (by kernel_rfl) (by simp) ?_
      refine (AllReadyH.cons (o := { dst := some 76, op := Go.Op.call { callee := Go.Callee.value (Go.Operand.func 12), args := #[Go.Operand.tmp 74, Go.Operand.tmp 75], argTypes := #[27, 26] }, type := 26, pos := "law.go:75", after := #[{ on := 0, ground := Go.Ground.data }, { on := 1, ground := Go.Ground.data }], guard := none }) rfl (fun K hK => ?_) (AllReadyH.cons (o := { dst := some 11, op := Go.Op.alloc 26, type := 0, pos := "law.go:75", after := #[], guard := none }) rfl (fun K hK => ?_) (AllReadyH.cons (o := { dst := some 12, op := Go.Op.alloc 26, type := 0, pos := "law.go:75", after := #[], guard := none }) rfl (fun K hK => ?_) AllReadyH.nil)))
      · go_simp
        go_at_call 12
        refine (hX1.out _ hd0).mono ?_
        rintro e w101 ⟨⟨u, HU, rfl⟩, hg⟩
        have hA1 := hA0.bel hg; have hB1 := hB0.bel hg; have hd1 := hd0.trans' hg
        clear hg hA0 hB0 hd0
        first | refine hK.out _ _ ?_ (fun hHeld => ?_) | (go_wp2_with fail; refine hK.out _ _ ?_ (fun hHeld => ?_))
        · (try dsimp only); exact ⟨hA1.cells, hB1.cells⟩
        clear hK K hHeld
        try simp only [Act.put, List.setIfInBounds_toArray, List.set_cons_zero, List.set_cons_succ]
        refine wpAnyH_ready (rs := [5, 6, 7]) (by kernel_rfl) (by simp) ?_
        refine (AllReadyH.cons (o := { dst := some 79, op := Go.Op.call { callee := Go.Callee.value (Go.Operand.func 12), args := #[Go.Operand.tmp 77, Go.Operand.tmp 78], argTypes := #[27, 26] }, type := 26, pos := "law.go:75", after := #[{ on := 3, ground := Go.Ground.data }, { on := 4, ground := Go.Ground.data }, { on := 2, ground := Go.Ground.chain }], guard := none }) rfl (fun K hK => ?_) (AllReadyH.cons (o := { dst := some 11, op := Go.Op.alloc 26, type := 0, pos := "law.go:75", after := #[], guard := none }) rfl (fun K hK => ?_) (AllReadyH.cons (o := { dst := some 12, op := Go.Op.alloc 26, type := 0, pos := "law.go:75", after := #[], guard := none }) rfl (fun K hK => ?_) AllReadyH.nil)))
        · go_simp
          go_at_call 12
          refine (hX2.out _ hd1).mono ?_
          rintro e w102 ⟨⟨v, HV, rfl⟩, hg⟩
          have hA2 := hA1.bel hg; have hB2 := hB1.bel hg; have hd2 := hd1.trans' hg
          clear hg hA1 hB1 hd1
          first | refine hK.out _ _ ?_ (fun hHeld => ?_) | (go_wp2_with fail; refine hK.out _ _ ?_ (fun hHeld => ?_))
          · (try dsimp only); exact ⟨hA2.cells, hB2.cells⟩
          clear hK K hHeld
          try simp only [Act.put, List.setIfInBounds_toArray, List.set_cons_zero, List.set_cons_succ]
          refine wpAnyH_ready (rs := [6, 7]) (by kernel_rfl) (by simp) ?_
          refine (AllReadyH.cons (o := { dst := some 11, op := Go.Op.alloc 26, type := 0, pos := "law.go:75", after := #[], guard := none }) rfl (fun K hK => ?_) (AllReadyH.cons (o := { dst := some 12, op := Go.Op.alloc 26, type := 0, pos := "law.go:75", after := #[], guard := none }) rfl (fun K hK => ?_) AllReadyH.nil))
          · go_simp
            obtain ⟨w103, hW⟩ : ∃ x, x = w102.alloc (.cells #[.string ⟨#[]⟩, .string ⟨#[]⟩, .int .i64 0, .bool false, .string ⟨#[]⟩, .bool false, .string ⟨#[]⟩, .bool false, .string ⟨#[]⟩, .bool false, .string ⟨#[]⟩] 26) := ⟨_, rfl⟩
            have hg : Bel w102 w103 := by rw [hW]; exact bel_alloc _ _
            have hN : AtomAt w103 w102.heap.size zeroA := by rw [hW]; exact AtomAt.new w102 zeroA
            have hl : wc.heap.size ≤ w102.heap.size := hd2.size
            rw [← hW]
            clear hW
            have hA3 := hA2.bel hg; have hB3 := hB2.bel hg; have hd3 := hd2.trans' hg
            generalize w102.heap.size = g0 at hN hl ⊢
            have hf0 := hN; have hl0 := hl; clear hN hl
            clear hg hA2 hB2 hd2
            first | refine hK.out _ _ ?_ (fun hHeld => ?_) | (go_wp2_with fail; refine hK.out _ _ ?_ (fun hHeld => ?_))
            · (try dsimp only); exact ⟨hA3.cells, hB3.cells⟩
            clear hK K hHeld
            try simp only [Act.put, List.setIfInBounds_toArray, List.set_cons_zero, List.set_cons_succ]
            refine wpAnyH_ready (rs := [7]) (by kernel_rfl) (by simp) ?_
            refine (AllReadyH.cons (o := { dst := some 12, op := Go.Op.alloc 26, type := 0, pos := "law.go:75", after := #[], guard := none }) rfl (fun K hK => ?_) AllReadyH.nil)
            · go_simp
              obtain ⟨w104, hW⟩ : ∃ x, x = w103.alloc (.cells #[.string ⟨#[]⟩, .string ⟨#[]⟩, .int .i64 0, .bool false, .string ⟨#[]⟩, .bool false, .string ⟨#[]⟩, .bool false, .string ⟨#[]⟩, .bool false, .string ⟨#[]⟩] 26) := ⟨_, rfl⟩
              have hg : Bel w103 w104 := by rw [hW]; exact bel_alloc _ _
              have hN : AtomAt w104 w103.heap.size zeroA := by rw [hW]; exact AtomAt.new w103 zeroA
              have hl : wc.heap.size ≤ w103.heap.size := hd3.size
              have hne : w103.heap.size ≠ g0 := Nat.ne_of_gt (AtomAt.lt hf0)
              rw [← hW]
              clear hW
              have hA4 := hA3.bel hg; have hB4 := hB3.bel hg; have hd4 := hd3.trans' hg
              replace hf0 := hf0.bel hg
              generalize w103.heap.size = g1 at hN hl hne ⊢
              have hf1 := hN; have hl1 := hl; clear hN hl
              clear hg hA3 hB3 hd3
              first | refine hK.out _ _ ?_ (fun hHeld => ?_) | (go_wp2_with fail; refine hK.out _ _ ?_ (fun hHeld => ?_))
              · (try dsimp only); exact ⟨hA4.cells, hB4.cells⟩
              clear hK K hHeld
              try simp only [Act.put, List.setIfInBounds_toArray, List.set_cons_zero, List.set_cons_succ]
              have BD : RegA wc w104 w.heap.size (w.heap.size + 1) a b g0 g1 u v (applyA l a) (applyA l b) := ⟨⟨hf0, hf1, hne, hl0, hl1, hd4⟩, hA4, hB4, HU.out, HV.out⟩
              clear hf0 hl0 hne hf1 hl1 HU HV hA4 hB4 hd4
              revert BD; revert v; revert u; revert g1; revert g0; revert w104
              exact key
          · go_simp
            obtain ⟨w105, hW⟩ : ∃ x, x = w102.alloc (.cells #[.string ⟨#[]⟩, .string ⟨#[]⟩, .int .i64 0, .bool false, .string ⟨#[]⟩, .bool false, .string ⟨#[]⟩, .bool false, .string ⟨#[]⟩, .bool false, .string ⟨#[]⟩] 26) := ⟨_, rfl⟩
            have hg : Bel w102 w105 := by rw [hW]; exact bel_alloc _ _
            have hN : AtomAt w105 w102.heap.size zeroA := by rw [hW]; exact AtomAt.new w102 zeroA
            have hl : wc.heap.size ≤ w102.heap.size := hd2.size
            rw [← hW]
            clear hW
            have hA5 := hA2.bel hg; have hB5 := hB2.bel hg; have hd5 := hd2.trans' hg
            generalize w102.heap.size = g1 at hN hl ⊢
            have hf1 := hN; have hl1 := hl; clear hN hl
            clear hg hA2 hB2 hd2
            first | refine hK.out _ _ ?_ (fun hHeld => ?_) | (go_wp2_with fail; refine hK.out _ _ ?_ (fun hHeld => ?_))
            · (try dsimp only); exact ⟨hA5.cells, hB5.cells⟩
            clear hK K hHeld
            try simp only [Act.put, List.setIfInBounds_toArray, List.set_cons_zero, List.set_cons_succ]
            refine wpAnyH_ready (rs := [6]) (by kernel_rfl) (by simp) ?_
            refine (AllReadyH.cons (o := { dst := some 11, op := Go.Op.alloc 26, type := 0, pos := "law.go:75", after := #[], guard := none }) rfl (fun K hK => ?_) AllReadyH.nil)
            · go_simp
              obtain ⟨w106, hW⟩ : ∃ x, x = w105.alloc (.cells #[.string ⟨#[]⟩, .string ⟨#[]⟩, .int .i64 0, .bool false, .string ⟨#[]⟩, .bool false, .string ⟨#[]⟩, .bool false, .string ⟨#[]⟩, .bool false, .string ⟨#[]⟩] 26) := ⟨_, rfl⟩
              have hg : Bel w105 w106 := by rw [hW]; exact bel_alloc _ _
              have hN : AtomAt w106 w105.heap.size zeroA := by rw [hW]; exact AtomAt.new w105 zeroA
              have hl : wc.heap.size ≤ w105.heap.size := hd5.size
              have hne : w105.heap.size ≠ g1 := Nat.ne_of_gt (AtomAt.lt hf1)
              rw [← hW]
              clear hW
              have hA6 := hA5.bel hg; have hB6 := hB5.bel hg; have hd6 := hd5.trans' hg
              replace hf1 := hf1.bel hg
              generalize w105.heap.size = g0 at hN hl hne ⊢
              have hf0 := hN; have hl0 := hl; clear hN hl
              replace hne := Ne.symm hne
              clear hg hA5 hB5 hd5
              first | refine hK.out _ _ ?_ (fun hHeld => ?_) | (go_wp2_with fail; refine hK.out _ _ ?_ (fun hHeld => ?_))
              · (try dsimp only); exact ⟨hA6.cells, hB6.cells⟩
              clear hK K hHeld
              try simp only [Act.put, List.setIfInBounds_toArray, List.set_cons_zero, List.set_cons_succ]
              have BD : RegA wc w106 w.heap.size (w.heap.size + 1) a b g0 g1 u v (applyA l a) (applyA l b) := ⟨⟨hf0, hf1, hne, hl0, hl1, hd6⟩, hA6, hB6, HU.out, HV.out⟩
              clear hf1 hl1 hne hf0 hl0 HU HV hA6 hB6 hd6
              revert BD; revert v; revert u; revert g1; revert g0; revert w106
              exact key
        · go_simp
          obtain ⟨w107, hW⟩ : ∃ x, x = w101.alloc (.cells #[.string ⟨#[]⟩, .string ⟨#[]⟩, .int .i64 0, .bool false, .string ⟨#[]⟩, .bool false, .string ⟨#[]⟩, .bool false, .string ⟨#[]⟩, .bool false, .string ⟨#[]⟩] 26) := ⟨_, rfl⟩
          have hg : Bel w101 w107 := by rw [hW]; exact bel_alloc _ _
          have hN : AtomAt w107 w101.heap.size zeroA := by rw [hW]; exact AtomAt.new w101 zeroA
          have hl : wc.heap.size ≤ w101.heap.size := hd1.size
          rw [← hW]
          clear hW
          have hA7 := hA1.bel hg; have hB7 := hB1.bel hg; have hd7 := hd1.trans' hg
          generalize w101.heap.size = g0 at hN hl ⊢
          have hf0 := hN; have hl0 := hl; clear hN hl
          clear hg hA1 hB1 hd1
          first | refine hK.out _ _ ?_ (fun hHeld => ?_) | (go_wp2_with fail; refine hK.out _ _ ?_ (fun hHeld => ?_))
          · (try dsimp only); exact ⟨hA7.cells, hB7.cells⟩
          clear hK K hHeld
          try simp only [Act.put, List.setIfInBounds_toArray, List.set_cons_zero, List.set_cons_succ]
          refine wpAnyH_ready (rs := [5, 7]) (by kernel_rfl) (by simp) ?_
          refine (AllReadyH.cons (o := { dst := some 79, op := Go.Op.call { callee := Go.Callee.value (Go.Operand.func 12), args := #[Go.Operand.tmp 77, Go.Operand.tmp 78], argTypes := #[27, 26] }, type := 26, pos := "law.go:75", after := #[{ on := 3, ground := Go.Ground.data }, { on := 4, ground := Go.Ground.data }, { on := 2, ground := Go.Ground.chain }], guard := none }) rfl (fun K hK => ?_) (AllReadyH.cons (o := { dst := some 12, op := Go.Op.alloc 26, type := 0, pos := "law.go:75", after := #[], guard := none }) rfl (fun K hK => ?_) AllReadyH.nil))
          · go_simp
            go_at_call 12
            refine (hX2.out _ hd7).mono ?_
            rintro e w108 ⟨⟨v, HV, rfl⟩, hg⟩
            have hA8 := hA7.bel hg; have hB8 := hB7.bel hg; have hd8 := hd7.trans' hg
            replace hf0 := hf0.bel hg
            clear hg hA7 hB7 hd7
            first | refine hK.out _ _ ?_ (fun hHeld => ?_) | (go_wp2_with fail; refine hK.out _ _ ?_ (fun hHeld => ?_))
            · (try dsimp only); exact ⟨hA8.cells, hB8.cells⟩
            clear hK K hHeld
            try simp only [Act.put, List.setIfInBounds_toArray, List.set_cons_zero, List.set_cons_succ]
            refine wpAnyH_ready (rs := [7]) (by kernel_rfl) (by simp) ?_
            refine (AllReadyH.cons (o := { dst := some 12, op := Go.Op.alloc 26, type := 0, pos := "law.go:75", after := #[], guard := none }) rfl (fun K hK => ?_) AllReadyH.nil)
            · go_simp
              obtain ⟨w109, hW⟩ : ∃ x, x = w108.alloc (.cells #[.string ⟨#[]⟩, .string ⟨#[]⟩, .int .i64 0, .bool false, .string ⟨#[]⟩, .bool false, .string ⟨#[]⟩, .bool false, .string ⟨#[]⟩, .bool false, .string ⟨#[]⟩] 26) := ⟨_, rfl⟩
              have hg : Bel w108 w109 := by rw [hW]; exact bel_alloc _ _
              have hN : AtomAt w109 w108.heap.size zeroA := by rw [hW]; exact AtomAt.new w108 zeroA
              have hl : wc.heap.size ≤ w108.heap.size := hd8.size
              have hne : w108.heap.size ≠ g0 := Nat.ne_of_gt (AtomAt.lt hf0)
              rw [← hW]
              clear hW
              have hA9 := hA8.bel hg; have hB9 := hB8.bel hg; have hd9 := hd8.trans' hg
              replace hf0 := hf0.bel hg
              generalize w108.heap.size = g1 at hN hl hne ⊢
              have hf1 := hN; have hl1 := hl; clear hN hl
              clear hg hA8 hB8 hd8
              first | refine hK.out _ _ ?_ (fun hHeld => ?_) | (go_wp2_with fail; refine hK.out _ _ ?_ (fun hHeld => ?_))
              · (try dsimp only); exact ⟨hA9.cells, hB9.cells⟩
              clear hK K hHeld
              try simp only [Act.put, List.setIfInBounds_toArray, List.set_cons_zero, List.set_cons_succ]
              have BD : RegA wc w109 w.heap.size (w.heap.size + 1) a b g0 g1 u v (applyA l a) (applyA l b) := ⟨⟨hf0, hf1, hne, hl0, hl1, hd9⟩, hA9, hB9, HU.out, HV.out⟩
              clear hf0 hl0 hne hf1 hl1 HU HV hA9 hB9 hd9
              revert BD; revert v; revert u; revert g1; revert g0; revert w109
              exact key
          · go_simp
            obtain ⟨w110, hW⟩ : ∃ x, x = w107.alloc (.cells #[.string ⟨#[]⟩, .string ⟨#[]⟩, .int .i64 0, .bool false, .string ⟨#[]⟩, .bool false, .string ⟨#[]⟩, .bool false, .string ⟨#[]⟩, .bool false, .string ⟨#[]⟩] 26) := ⟨_, rfl⟩
            have hg : Bel w107 w110 := by rw [hW]; exact bel_alloc _ _
            have hN : AtomAt w110 w107.heap.size zeroA := by rw [hW]; exact AtomAt.new w107 zeroA
            have hl : wc.heap.size ≤ w107.heap.size := hd7.size
            have hne : w107.heap.size ≠ g0 := Nat.ne_of_gt (AtomAt.lt hf0)
            rw [← hW]
            clear hW
            have hA10 := hA7.bel hg; have hB10 := hB7.bel hg; have hd10 := hd7.trans' hg
            replace hf0 := hf0.bel hg
            generalize w107.heap.size = g1 at hN hl hne ⊢
            have hf1 := hN; have hl1 := hl; clear hN hl
            clear hg hA7 hB7 hd7
            first | refine hK.out _ _ ?_ (fun hHeld => ?_) | (go_wp2_with fail; refine hK.out _ _ ?_ (fun hHeld => ?_))
            · (try dsimp only); exact ⟨hA10.cells, hB10.cells⟩
            clear hK K hHeld
            try simp only [Act.put, List.setIfInBounds_toArray, List.set_cons_zero, List.set_cons_succ]
            refine wpAnyH_ready (rs := [5]) (by kernel_rfl) (by simp) ?_
            refine (AllReadyH.cons (o := { dst := some 79, op := Go.Op.call { callee := Go.Callee.value (Go.Operand.func 12), args := #[Go.Operand.tmp 77, Go.Operand.tmp 78], argTypes := #[27, 26] }, type := 26, pos := "law.go:75", after := #[{ on := 3, ground := Go.Ground.data }, { on := 4, ground := Go.Ground.data }, { on := 2, ground := Go.Ground.chain }], guard := none }) rfl (fun K hK => ?_) AllReadyH.nil)
            · go_simp
              go_at_call 12
              refine (hX2.out _ hd10).mono ?_
              rintro e w111 ⟨⟨v, HV, rfl⟩, hg⟩
              have hA11 := hA10.bel hg; have hB11 := hB10.bel hg; have hd11 := hd10.trans' hg
              replace hf0 := hf0.bel hg
              replace hf1 := hf1.bel hg
              clear hg hA10 hB10 hd10
              first | refine hK.out _ _ ?_ (fun hHeld => ?_) | (go_wp2_with fail; refine hK.out _ _ ?_ (fun hHeld => ?_))
              · (try dsimp only); exact ⟨hA11.cells, hB11.cells⟩
              clear hK K hHeld
              try simp only [Act.put, List.setIfInBounds_toArray, List.set_cons_zero, List.set_cons_succ]
              have BD : RegA wc w111 w.heap.size (w.heap.size + 1) a b g0 g1 u v (applyA l a) (applyA l b) := ⟨⟨hf0, hf1, hne, hl0, hl1, hd11⟩, hA11, hB11, HU.out, HV.out⟩
              clear hf0 hl0 hne hf1 hl1 HU HV hA11 hB11 hd11
              revert BD; revert v; revert u; revert g1; revert g0; revert w111
              exact key
        · go_simp
          obtain ⟨w112, hW⟩ : ∃ x, x = w101.alloc (.cells #[.string ⟨#[]⟩, .string ⟨#[]⟩, .int .i64 0, .bool false, .string ⟨#[]⟩, .bool false, .string ⟨#[]⟩, .bool false, .string ⟨#[]⟩, .bool false, .string ⟨#[]⟩] 26) := ⟨_, rfl⟩
          have hg : Bel w101 w112 := by rw [hW]; exact bel_alloc _ _
          have hN : AtomAt w112 w101.heap.size zeroA := by rw [hW]; exact AtomAt.new w101 zeroA
          have hl : wc.heap.size ≤ w101.heap.size := hd1.size
          rw [← hW]
          clear hW
          have hA12 := hA1.bel hg; have hB12 := hB1.bel hg; have hd12 := hd1.trans' hg
          generalize w101.heap.size = g1 at hN hl ⊢
          have hf1 := hN; have hl1 := hl; clear hN hl
          clear hg hA1 hB1 hd1
          first | refine hK.out _ _ ?_ (fun hHeld => ?_) | (go_wp2_with fail; refine hK.out _ _ ?_ (fun hHeld => ?_))
          · (try dsimp only); exact ⟨hA12.cells, hB12.cells⟩
          clear hK K hHeld
          try simp only [Act.put, List.setIfInBounds_toArray, List.set_cons_zero, List.set_cons_succ]
          refine wpAnyH_ready (rs := [5, 6]) (by kernel_rfl) (by simp) ?_
          refine (AllReadyH.cons (o := { dst := some 79, op := Go.Op.call { callee := Go.Callee.value (Go.Operand.func 12), args := #[Go.Operand.tmp 77, Go.Operand.tmp 78], argTypes := #[27, 26] }, type := 26, pos := "law.go:75", after := #[{ on := 3, ground := Go.Ground.data }, { on := 4, ground := Go.Ground.data }, { on := 2, ground := Go.Ground.chain }], guard := none }) rfl (fun K hK => ?_) (AllReadyH.cons (o := { dst := some 11, op := Go.Op.alloc 26, type := 0, pos := "law.go:75", after := #[], guard := none }) rfl (fun K hK => ?_) AllReadyH.nil))
          · go_simp
            go_at_call 12
            refine (hX2.out _ hd12).mono ?_
            rintro e w113 ⟨⟨v, HV, rfl⟩, hg⟩
            have hA13 := hA12.bel hg; have hB13 := hB12.bel hg; have hd13 := hd12.trans' hg
            replace hf1 := hf1.bel hg
            clear hg hA12 hB12 hd12
            first | refine hK.out _ _ ?_ (fun hHeld => ?_) | (go_wp2_with fail; refine hK.out _ _ ?_ (fun hHeld => ?_))
            · (try dsimp only); exact ⟨hA13.cells, hB13.cells⟩
            clear hK K hHeld
            try simp only [Act.put, List.setIfInBounds_toArray, List.set_cons_zero, List.set_cons_succ]
            refine wpAnyH_ready (rs := [6]) (by kernel_rfl) (by simp) ?_
            refine (AllReadyH.cons (o := { dst := some 11, op := Go.Op.alloc 26, type := 0, pos := "law.go:75", after := #[], guard := none }) rfl (fun K hK => ?_) AllReadyH.nil)
            · go_simp
              obtain ⟨w114, hW⟩ : ∃ x, x = w113.alloc (.cells #[.string ⟨#[]⟩, .string ⟨#[]⟩, .int .i64 0, .bool false, .string ⟨#[]⟩, .bool false, .string ⟨#[]⟩, .bool false, .string ⟨#[]⟩, .bool false, .string ⟨#[]⟩] 26) := ⟨_, rfl⟩
              have hg : Bel w113 w114 := by rw [hW]; exact bel_alloc _ _
              have hN : AtomAt w114 w113.heap.size zeroA := by rw [hW]; exact AtomAt.new w113 zeroA
              have hl : wc.heap.size ≤ w113.heap.size := hd13.size
              have hne : w113.heap.size ≠ g1 := Nat.ne_of_gt (AtomAt.lt hf1)
              rw [← hW]
              clear hW
              have hA14 := hA13.bel hg; have hB14 := hB13.bel hg; have hd14 := hd13.trans' hg
              replace hf1 := hf1.bel hg
              generalize w113.heap.size = g0 at hN hl hne ⊢
              have hf0 := hN; have hl0 := hl; clear hN hl
              replace hne := Ne.symm hne
              clear hg hA13 hB13 hd13
              first | refine hK.out _ _ ?_ (fun hHeld => ?_) | (go_wp2_with fail; refine hK.out _ _ ?_ (fun hHeld => ?_))
              · (try dsimp only); exact ⟨hA14.cells, hB14.cells⟩
              clear hK K hHeld
              try simp only [Act.put, List.setIfInBounds_toArray, List.set_cons_zero, List.set_cons_succ]
              have BD : RegA wc w114 w.heap.size (w.heap.size + 1) a b g0 g1 u v (applyA l a) (applyA l b) := ⟨⟨hf0, hf1, hne, hl0, hl1, hd14⟩, hA14, hB14, HU.out, HV.out⟩
              clear hf1 hl1 hne hf0 hl0 HU HV hA14 hB14 hd14
              revert BD; revert v; revert u; revert g1; revert g0; revert w114
              exact key
          · go_simp
            obtain ⟨w115, hW⟩ : ∃ x, x = w112.alloc (.cells #[.string ⟨#[]⟩, .string ⟨#[]⟩, .int .i64 0, .bool false, .string ⟨#[]⟩, .bool false, .string ⟨#[]⟩, .bool false, .string ⟨#[]⟩, .bool false, .string ⟨#[]⟩] 26) := ⟨_, rfl⟩
            have hg : Bel w112 w115 := by rw [hW]; exact bel_alloc _ _
            have hN : AtomAt w115 w112.heap.size zeroA := by rw [hW]; exact AtomAt.new w112 zeroA
            have hl : wc.heap.size ≤ w112.heap.size := hd12.size
            have hne : w112.heap.size ≠ g1 := Nat.ne_of_gt (AtomAt.lt hf1)
            rw [← hW]
            clear hW
            have hA15 := hA12.bel hg; have hB15 := hB12.bel hg; have hd15 := hd12.trans' hg
            replace hf1 := hf1.bel hg
            generalize w112.heap.size = g0 at hN hl hne ⊢
            have hf0 := hN; have hl0 := hl; clear hN hl
            replace hne := Ne.symm hne
            clear hg hA12 hB12 hd12
            first | refine hK.out _ _ ?_ (fun hHeld => ?_) | (go_wp2_with fail; refine hK.out _ _ ?_ (fun hHeld => ?_))
            · (try dsimp only); exact ⟨hA15.cells, hB15.cells⟩
            clear hK K hHeld
            try simp only [Act.put, List.setIfInBounds_toArray, List.set_cons_zero, List.set_cons_succ]
            refine wpAnyH_ready (rs := [5]) (by kernel_rfl) (by simp) ?_
            refine (AllReadyH.cons (o := { dst := some 79, op := Go.Op.call { callee := Go.Callee.value (Go.Operand.func 12), args := #[Go.Operand.tmp 77, Go.Operand.tmp 78], argTypes := #[27, 26] }, type := 26, pos := "law.go:75", after := #[{ on := 3, ground := Go.Ground.data }, { on := 4, ground := Go.Ground.data }, { on := 2, ground := Go.Ground.chain }], guard := none }) rfl (fun K hK => ?_) AllReadyH.nil)
            · go_simp
              go_at_call 12
              refine (hX2.out _ hd15).mono ?_
              rintro e w116 ⟨⟨v, HV, rfl⟩, hg⟩
              have hA16 := hA15.bel hg; have hB16 := hB15.bel hg; have hd16 := hd15.trans' hg
              replace hf0 := hf0.bel hg
              replace hf1 := hf1.bel hg
              clear hg hA15 hB15 hd15
              first | refine hK.out _ _ ?_ (fun hHeld => ?_) | (go_wp2_with fail; refine hK.out _ _ ?_ (fun hHeld => ?_))
              · (try dsimp only); exact ⟨hA16.cells, hB16.cells⟩
              clear hK K hHeld
              try simp only [Act.put, List.setIfInBounds_toArray, List.set_cons_zero, List.set_cons_succ]
              have BD : RegA wc w116 w.heap.size (w.heap.size + 1) a b g0 g1 u v (applyA l a) (applyA l b) := ⟨⟨hf0, hf1, hne, hl0, hl1, hd16⟩, hA16, hB16, HU.out, HV.out⟩
              clear hf1 hl1 hne hf0 hl0 HU HV hA16 hB16 hd16
              revert BD; revert v; revert u; revert g1; revert g0; revert w116
              exact key
      · go_simp
        obtain ⟨w117, hW⟩ : ∃ x, x = wD.alloc (.cells #[.string ⟨#[]⟩, .string ⟨#[]⟩, .int .i64 0, .bool false, .string ⟨#[]⟩, .bool false, .string ⟨#[]⟩, .bool false, .string ⟨#[]⟩, .bool false, .string ⟨#[]⟩] 26) := ⟨_, rfl⟩
        have hg : Bel wD w117 := by rw [hW]; exact bel_alloc _ _
        have hN : AtomAt w117 wD.heap.size zeroA := by rw [hW]; exact AtomAt.new wD zeroA
        have hl : wc.heap.size ≤ wD.heap.size := hd0.size
        rw [← hW]
        clear hW
        have hA17 := hA0.bel hg; have hB17 := hB0.bel hg; have hd17 := hd0.trans' hg
        generalize wD.heap.size = g0 at hN hl ⊢
        have hf0 := hN; have hl0 := hl; clear hN hl
        clear hg hA0 hB0 hd0
        first | refine hK.out _ _ ?_ (fun hHeld => ?_) | (go_wp2_with fail; refine hK.out _ _ ?_ (fun hHeld => ?_))
        · (try dsimp only); exact ⟨hA17.cells, hB17.cells⟩
        clear hK K hHeld
        try simp only [Act.put, List.setIfInBounds_toArray, List.set_cons_zero, List.set_cons_succ]
        refine wpAnyH_ready (rs := [2, 7]) (by kernel_rfl) (by simp) ?_
        refine (AllReadyH.cons (o := { dst := some 76, op := Go.Op.call { callee := Go.Callee.value (Go.Operand.func 12), args := #[Go.Operand.tmp 74, Go.Operand.tmp 75], argTypes := #[27, 26] }, type := 26, pos := "law.go:75", after := #[{ on := 0, ground := Go.Ground.data }, { on := 1, ground := Go.Ground.data }], guard := none }) rfl (fun K hK => ?_) (AllReadyH.cons (o := { dst := some 12, op := Go.Op.alloc 26, type := 0, pos := "law.go:75", after := #[], guard := none }) rfl (fun K hK => ?_) AllReadyH.nil))
        · go_simp
          go_at_call 12
          refine (hX1.out _ hd17).mono ?_
          rintro e w118 ⟨⟨u, HU, rfl⟩, hg⟩
          have hA18 := hA17.bel hg; have hB18 := hB17.bel hg; have hd18 := hd17.trans' hg
          replace hf0 := hf0.bel hg
          clear hg hA17 hB17 hd17
          first | refine hK.out _ _ ?_ (fun hHeld => ?_) | (go_wp2_with fail; refine hK.out _ _ ?_ (fun hHeld => ?_))
          · (try dsimp only); exact ⟨hA18.cells, hB18.cells⟩
          clear hK K hHeld
          try simp only [Act.put, List.setIfInBounds_toArray, List.set_cons_zero, List.set_cons_succ]
          refine wpAnyH_ready (rs := [5, 7]) (by kernel_rfl) (by simp) ?_
          refine (AllReadyH.cons (o := { dst := some 79, op := Go.Op.call { callee := Go.Callee.value (Go.Operand.func 12), args := #[Go.Operand.tmp 77, Go.Operand.tmp 78], argTypes := #[27, 26] }, type := 26, pos := "law.go:75", after := #[{ on := 3, ground := Go.Ground.data }, { on := 4, ground := Go.Ground.data }, { on := 2, ground := Go.Ground.chain }], guard := none }) rfl (fun K hK => ?_) (AllReadyH.cons (o := { dst := some 12, op := Go.Op.alloc 26, type := 0, pos := "law.go:75", after := #[], guard := none }) rfl (fun K hK => ?_) AllReadyH.nil))
          · go_simp
            go_at_call 12
            refine (hX2.out _ hd18).mono ?_
            rintro e w119 ⟨⟨v, HV, rfl⟩, hg⟩
            have hA19 := hA18.bel hg; have hB19 := hB18.bel hg; have hd19 := hd18.trans' hg
            replace hf0 := hf0.bel hg
            clear hg hA18 hB18 hd18
            first | refine hK.out _ _ ?_ (fun hHeld => ?_) | (go_wp2_with fail; refine hK.out _ _ ?_ (fun hHeld => ?_))
            · (try dsimp only); exact ⟨hA19.cells, hB19.cells⟩
            clear hK K hHeld
            try simp only [Act.put, List.setIfInBounds_toArray, List.set_cons_zero, List.set_cons_succ]
            refine wpAnyH_ready (rs := [7]) (by kernel_rfl) (by simp) ?_
            refine (AllReadyH.cons (o := { dst := some 12, op := Go.Op.alloc 26, type := 0, pos := "law.go:75", after := #[], guard := none }) rfl (fun K hK => ?_) AllReadyH.nil)
            · go_simp
              obtain ⟨w120, hW⟩ : ∃ x, x = w119.alloc (.cells #[.string ⟨#[]⟩, .string ⟨#[]⟩, .int .i64 0, .bool false, .string ⟨#[]⟩, .bool false, .string ⟨#[]⟩, .bool false, .string ⟨#[]⟩, .bool false, .string ⟨#[]⟩] 26) := ⟨_, rfl⟩
              have hg : Bel w119 w120 := by rw [hW]; exact bel_alloc _ _
              have hN : AtomAt w120 w119.heap.size zeroA := by rw [hW]; exact AtomAt.new w119 zeroA
              have hl : wc.heap.size ≤ w119.heap.size := hd19.size
              have hne : w119.heap.size ≠ g0 := Nat.ne_of_gt (AtomAt.lt hf0)
              rw [← hW]
              clear hW
              have hA20 := hA19.bel hg; have hB20 := hB19.bel hg; have hd20 := hd19.trans' hg
              replace hf0 := hf0.bel hg
              generalize w119.heap.size = g1 at hN hl hne ⊢
              have hf1 := hN; have hl1 := hl; clear hN hl
              clear hg hA19 hB19 hd19
              first | refine hK.out _ _ ?_ (fun hHeld => ?_) | (go_wp2_with fail; refine hK.out _ _ ?_ (fun hHeld => ?_))
              · (try dsimp only); exact ⟨hA20.cells, hB20.cells⟩
              clear hK K hHeld
              try simp only [Act.put, List.setIfInBounds_toArray, List.set_cons_zero, List.set_cons_succ]
              have BD : RegA wc w120 w.heap.size (w.heap.size + 1) a b g0 g1 u v (applyA l a) (applyA l b) := ⟨⟨hf0, hf1, hne, hl0, hl1, hd20⟩, hA20, hB20, HU.out, HV.out⟩
              clear hf0 hl0 hne hf1 hl1 HU HV hA20 hB20 hd20
              revert BD; revert v; revert u; revert g1; revert g0; revert w120
              exact key
          · go_simp
            obtain ⟨w121, hW⟩ : ∃ x, x = w118.alloc (.cells #[.string ⟨#[]⟩, .string ⟨#[]⟩, .int .i64 0, .bool false, .string ⟨#[]⟩, .bool false, .string ⟨#[]⟩, .bool false, .string ⟨#[]⟩, .bool false, .string ⟨#[]⟩] 26) := ⟨_, rfl⟩
            have hg : Bel w118 w121 := by rw [hW]; exact bel_alloc _ _
            have hN : AtomAt w121 w118.heap.size zeroA := by rw [hW]; exact AtomAt.new w118 zeroA
            have hl : wc.heap.size ≤ w118.heap.size := hd18.size
            have hne : w118.heap.size ≠ g0 := Nat.ne_of_gt (AtomAt.lt hf0)
            rw [← hW]
            clear hW
            have hA21 := hA18.bel hg; have hB21 := hB18.bel hg; have hd21 := hd18.trans' hg
            replace hf0 := hf0.bel hg
            generalize w118.heap.size = g1 at hN hl hne ⊢
            have hf1 := hN; have hl1 := hl; clear hN hl
            clear hg hA18 hB18 hd18
            first | refine hK.out _ _ ?_ (fun hHeld => ?_) | (go_wp2_with fail; refine hK.out _ _ ?_ (fun hHeld => ?_))
            · (try dsimp only); exact ⟨hA21.cells, hB21.cells⟩
            clear hK K hHeld
            try simp only [Act.put, List.setIfInBounds_toArray, List.set_cons_zero, List.set_cons_succ]
            refine wpAnyH_ready (rs := [5]) (by kernel_rfl) (by simp) ?_
            refine (AllReadyH.cons (o := { dst := some 79, op := Go.Op.call { callee := Go.Callee.value (Go.Operand.func 12), args := #[Go.Operand.tmp 77, Go.Operand.tmp 78], argTypes := #[27, 26] }, type := 26, pos := "law.go:75", after := #[{ on := 3, ground := Go.Ground.data }, { on := 4, ground := Go.Ground.data }, { on := 2, ground := Go.Ground.chain }], guard := none }) rfl (fun K hK => ?_) AllReadyH.nil)
            · go_simp
              go_at_call 12
              refine (hX2.out _ hd21).mono ?_
              rintro e w122 ⟨⟨v, HV, rfl⟩, hg⟩
              have hA22 := hA21.bel hg; have hB22 := hB21.bel hg; have hd22 := hd21.trans' hg
              replace hf0 := hf0.bel hg
              replace hf1 := hf1.bel hg
              clear hg hA21 hB21 hd21
              first | refine hK.out _ _ ?_ (fun hHeld => ?_) | (go_wp2_with fail; refine hK.out _ _ ?_ (fun hHeld => ?_))
              · (try dsimp only); exact ⟨hA22.cells, hB22.cells⟩
              clear hK K hHeld
              try simp only [Act.put, List.setIfInBounds_toArray, List.set_cons_zero, List.set_cons_succ]
              have BD : RegA wc w122 w.heap.size (w.heap.size + 1) a b g0 g1 u v (applyA l a) (applyA l b) := ⟨⟨hf0, hf1, hne, hl0, hl1, hd22⟩, hA22, hB22, HU.out, HV.out⟩
              clear hf0 hl0 hne hf1 hl1 HU HV hA22 hB22 hd22
              revert BD; revert v; revert u; revert g1; revert g0; revert w122
              exact key
        · go_simp
          obtain ⟨w123, hW⟩ : ∃ x, x = w117.alloc (.cells #[.string ⟨#[]⟩, .string ⟨#[]⟩, .int .i64 0, .bool false, .string ⟨#[]⟩, .bool false, .string ⟨#[]⟩, .bool false, .string ⟨#[]⟩, .bool false, .string ⟨#[]⟩] 26) := ⟨_, rfl⟩
          have hg : Bel w117 w123 := by rw [hW]; exact bel_alloc _ _
          have hN : AtomAt w123 w117.heap.size zeroA := by rw [hW]; exact AtomAt.new w117 zeroA
          have hl : wc.heap.size ≤ w117.heap.size := hd17.size
          have hne : w117.heap.size ≠ g0 := Nat.ne_of_gt (AtomAt.lt hf0)
          rw [← hW]
          clear hW
          have hA23 := hA17.bel hg; have hB23 := hB17.bel hg; have hd23 := hd17.trans' hg
          replace hf0 := hf0.bel hg
          generalize w117.heap.size = g1 at hN hl hne ⊢
          have hf1 := hN; have hl1 := hl; clear hN hl
          clear hg hA17 hB17 hd17
          first | refine hK.out _ _ ?_ (fun hHeld => ?_) | (go_wp2_with fail; refine hK.out _ _ ?_ (fun hHeld => ?_))
          · (try dsimp only); exact ⟨hA23.cells, hB23.cells⟩
          clear hK K hHeld
          try simp only [Act.put, List.setIfInBounds_toArray, List.set_cons_zero, List.set_cons_succ]
          refine wpAnyH_ready (rs := [2]) (by kernel_rfl) (by simp) ?_
          refine (AllReadyH.cons (o := { dst := some 76, op := Go.Op.call { callee := Go.Callee.value (Go.Operand.func 12), args := #[Go.Operand.tmp 74, Go.Operand.tmp 75], argTypes := #[27, 26] }, type := 26, pos := "law.go:75", after := #[{ on := 0, ground := Go.Ground.data }, { on := 1, ground := Go.Ground.data }], guard := none }) rfl (fun K hK => ?_) AllReadyH.nil)
          · go_simp
            go_at_call 12
            refine (hX1.out _ hd23).mono ?_
            rintro e w124 ⟨⟨u, HU, rfl⟩, hg⟩
            have hA24 := hA23.bel hg; have hB24 := hB23.bel hg; have hd24 := hd23.trans' hg
            replace hf0 := hf0.bel hg
            replace hf1 := hf1.bel hg
            clear hg hA23 hB23 hd23
            first | refine hK.out _ _ ?_ (fun hHeld => ?_) | (go_wp2_with fail; refine hK.out _ _ ?_ (fun hHeld => ?_))
            · (try dsimp only); exact ⟨hA24.cells, hB24.cells⟩
            clear hK K hHeld
            try simp only [Act.put, List.setIfInBounds_toArray, List.set_cons_zero, List.set_cons_succ]
            refine wpAnyH_ready (rs := [5]) (by kernel_rfl) (by simp) ?_
            refine (AllReadyH.cons (o := { dst := some 79, op := Go.Op.call { callee := Go.Callee.value (Go.Operand.func 12), args := #[Go.Operand.tmp 77, Go.Operand.tmp 78], argTypes := #[27, 26] }, type := 26, pos := "law.go:75", after := #[{ on := 3, ground := Go.Ground.data }, { on := 4, ground := Go.Ground.data }, { on := 2, ground := Go.Ground.chain }], guard := none }) rfl (fun K hK => ?_) AllReadyH.nil)
            · go_simp
              go_at_call 12
              refine (hX2.out _ hd24).mono ?_
              rintro e w125 ⟨⟨v, HV, rfl⟩, hg⟩
              have hA25 := hA24.bel hg; have hB25 := hB24.bel hg; have hd25 := hd24.trans' hg
              replace hf0 := hf0.bel hg
              replace hf1 := hf1.bel hg
              clear hg hA24 hB24 hd24
              first | refine hK.out _ _ ?_ (fun hHeld => ?_) | (go_wp2_with fail; refine hK.out _ _ ?_ (fun hHeld => ?_))
              · (try dsimp only); exact ⟨hA25.cells, hB25.cells⟩
              clear hK K hHeld
              try simp only [Act.put, List.setIfInBounds_toArray, List.set_cons_zero, List.set_cons_succ]
              have BD : RegA wc w125 w.heap.size (w.heap.size + 1) a b g0 g1 u v (applyA l a) (applyA l b) := ⟨⟨hf0, hf1, hne, hl0, hl1, hd25⟩, hA25, hB25, HU.out, HV.out⟩
              clear hf0 hl0 hne hf1 hl1 HU HV hA25 hB25 hd25
              revert BD; revert v; revert u; revert g1; revert g0; revert w125
              exact key
      · go_simp
        obtain ⟨w126, hW⟩ : ∃ x, x = wD.alloc (.cells #[.string ⟨#[]⟩, .string ⟨#[]⟩, .int .i64 0, .bool false, .string ⟨#[]⟩, .bool false, .string ⟨#[]⟩, .bool false, .string ⟨#[]⟩, .bool false, .string ⟨#[]⟩] 26) := ⟨_, rfl⟩
        have hg : Bel wD w126 := by rw [hW]; exact bel_alloc _ _
        have hN : AtomAt w126 wD.heap.size zeroA := by rw [hW]; exact AtomAt.new wD zeroA
        have hl : wc.heap.size ≤ wD.heap.size := hd0.size
        rw [← hW]
        clear hW
        have hA26 := hA0.bel hg; have hB26 := hB0.bel hg; have hd26 := hd0.trans' hg
        generalize wD.heap.size = g1 at hN hl ⊢
        have hf1 := hN; have hl1 := hl; clear hN hl
        clear hg hA0 hB0 hd0
        first | refine hK.out _ _ ?_ (fun hHeld => ?_) | (go_wp2_with fail; refine hK.out _ _ ?_ (fun hHeld => ?_))
        · (try dsimp only); exact ⟨hA26.cells, hB26.cells⟩
        clear hK K hHeld
        try simp only [Act.put, List.setIfInBounds_toArray, List.set_cons_zero, List.set_cons_succ]
        refine wpAnyH_ready (rs := [2, 6]) (by kernel_rfl) (by simp) ?_
        refine (AllReadyH.cons (o := { dst := some 76, op := Go.Op.call { callee := Go.Callee.value (Go.Operand.func 12), args := #[Go.Operand.tmp 74, Go.Operand.tmp 75], argTypes := #[27, 26] }, type := 26, pos := "law.go:75", after := #[{ on := 0, ground := Go.Ground.data }, { on := 1, ground := Go.Ground.data }], guard := none }) rfl (fun K hK => ?_) (AllReadyH.cons (o := { dst := some 11, op := Go.Op.alloc 26, type := 0, pos := "law.go:75", after := #[], guard := none }) rfl (fun K hK => ?_) AllReadyH.nil))
        · go_simp
          go_at_call 12
          refine (hX1.out _ hd26).mono ?_
          rintro e w127 ⟨⟨u, HU, rfl⟩, hg⟩
          have hA27 := hA26.bel hg; have hB27 := hB26.bel hg; have hd27 := hd26.trans' hg
          replace hf1 := hf1.bel hg
          clear hg hA26 hB26 hd26
          first | refine hK.out _ _ ?_ (fun hHeld => ?_) | (go_wp2_with fail; refine hK.out _ _ ?_ (fun hHeld => ?_))
          · (try dsimp only); exact ⟨hA27.cells, hB27.cells⟩
          clear hK K hHeld
          try simp only [Act.put, List.setIfInBounds_toArray, List.set_cons_zero, List.set_cons_succ]
          refine wpAnyH_ready (rs := [5, 6]) (by kernel_rfl) (by simp) ?_
          refine (AllReadyH.cons (o := { dst := some 79, op := Go.Op.call { callee := Go.Callee.value (Go.Operand.func 12), args := #[Go.Operand.tmp 77, Go.Operand.tmp 78], argTypes := #[27, 26] }, type := 26, pos := "law.go:75", after := #[{ on := 3, ground := Go.Ground.data }, { on := 4, ground := Go.Ground.data }, { on := 2, ground := Go.Ground.chain }], guard := none }) rfl (fun K hK => ?_) (AllReadyH.cons (o := { dst := some 11, op := Go.Op.alloc 26, type := 0, pos := "law.go:75", after := #[], guard := none }) rfl (fun K hK => ?_) AllReadyH.nil))
          · go_simp
            go_at_call 12
            refine (hX2.out _ hd27).mono ?_
            rintro e w128 ⟨⟨v, HV, rfl⟩, hg⟩
            have hA28 := hA27.bel hg; have hB28 := hB27.bel hg; have hd28 := hd27.trans' hg
            replace hf1 := hf1.bel hg
            clear hg hA27 hB27 hd27
            first | refine hK.out _ _ ?_ (fun hHeld => ?_) | (go_wp2_with fail; refine hK.out _ _ ?_ (fun hHeld => ?_))
            · (try dsimp only); exact ⟨hA28.cells, hB28.cells⟩
            clear hK K hHeld
            try simp only [Act.put, List.setIfInBounds_toArray, List.set_cons_zero, List.set_cons_succ]
            refine wpAnyH_ready (rs := [6]) (by kernel_rfl) (by simp) ?_
            refine (AllReadyH.cons (o := { dst := some 11, op := Go.Op.alloc 26, type := 0, pos := "law.go:75", after := #[], guard := none }) rfl (fun K hK => ?_) AllReadyH.nil)
            · go_simp
              obtain ⟨w129, hW⟩ : ∃ x, x = w128.alloc (.cells #[.string ⟨#[]⟩, .string ⟨#[]⟩, .int .i64 0, .bool false, .string ⟨#[]⟩, .bool false, .string ⟨#[]⟩, .bool false, .string ⟨#[]⟩, .bool false, .string ⟨#[]⟩] 26) := ⟨_, rfl⟩
              have hg : Bel w128 w129 := by rw [hW]; exact bel_alloc _ _
              have hN : AtomAt w129 w128.heap.size zeroA := by rw [hW]; exact AtomAt.new w128 zeroA
              have hl : wc.heap.size ≤ w128.heap.size := hd28.size
              have hne : w128.heap.size ≠ g1 := Nat.ne_of_gt (AtomAt.lt hf1)
              rw [← hW]
              clear hW
              have hA29 := hA28.bel hg; have hB29 := hB28.bel hg; have hd29 := hd28.trans' hg
              replace hf1 := hf1.bel hg
              generalize w128.heap.size = g0 at hN hl hne ⊢
              have hf0 := hN; have hl0 := hl; clear hN hl
              replace hne := Ne.symm hne
              clear hg hA28 hB28 hd28
              first | refine hK.out _ _ ?_ (fun hHeld => ?_) | (go_wp2_with fail; refine hK.out _ _ ?_ (fun hHeld => ?_))
              · (try dsimp only); exact ⟨hA29.cells, hB29.cells⟩
              clear hK K hHeld
              try simp only [Act.put, List.setIfInBounds_toArray, List.set_cons_zero, List.set_cons_succ]
              have BD : RegA wc w129 w.heap.size (w.heap.size + 1) a b g0 g1 u v (applyA l a) (applyA l b) := ⟨⟨hf0, hf1, hne, hl0, hl1, hd29⟩, hA29, hB29, HU.out, HV.out⟩
              clear hf1 hl1 hne hf0 hl0 HU HV hA29 hB29 hd29
              revert BD; revert v; revert u; revert g1; revert g0; revert w129
              exact key
          · go_simp
            obtain ⟨w130, hW⟩ : ∃ x, x = w127.alloc (.cells #[.string ⟨#[]⟩, .string ⟨#[]⟩, .int .i64 0, .bool false, .string ⟨#[]⟩, .bool false, .string ⟨#[]⟩, .bool false, .string ⟨#[]⟩, .bool false, .string ⟨#[]⟩] 26) := ⟨_, rfl⟩
            have hg : Bel w127 w130 := by rw [hW]; exact bel_alloc _ _
            have hN : AtomAt w130 w127.heap.size zeroA := by rw [hW]; exact AtomAt.new w127 zeroA
            have hl : wc.heap.size ≤ w127.heap.size := hd27.size
            have hne : w127.heap.size ≠ g1 := Nat.ne_of_gt (AtomAt.lt hf1)
            rw [← hW]
            clear hW
            have hA30 := hA27.bel hg; have hB30 := hB27.bel hg; have hd30 := hd27.trans' hg
            replace hf1 := hf1.bel hg
            generalize w127.heap.size = g0 at hN hl hne ⊢
            have hf0 := hN; have hl0 := hl; clear hN hl
            replace hne := Ne.symm hne
            clear hg hA27 hB27 hd27
            first | refine hK.out _ _ ?_ (fun hHeld => ?_) | (go_wp2_with fail; refine hK.out _ _ ?_ (fun hHeld => ?_))
            · (try dsimp only); exact ⟨hA30.cells, hB30.cells⟩
            clear hK K hHeld
            try simp only [Act.put, List.setIfInBounds_toArray, List.set_cons_zero, List.set_cons_succ]
            refine wpAnyH_ready (rs := [5]) (by kernel_rfl) (by simp) ?_
            refine (AllReadyH.cons (o := { dst := some 79, op := Go.Op.call { callee := Go.Callee.value (Go.Operand.func 12), args := #[Go.Operand.tmp 77, Go.Operand.tmp 78], argTypes := #[27, 26] }, type := 26, pos := "law.go:75", after := #[{ on := 3, ground := Go.Ground.data }, { on := 4, ground := Go.Ground.data }, { on := 2, ground := Go.Ground.chain }], guard := none }) rfl (fun K hK => ?_) AllReadyH.nil)
            · go_simp
              go_at_call 12
              refine (hX2.out _ hd30).mono ?_
              rintro e w131 ⟨⟨v, HV, rfl⟩, hg⟩
              have hA31 := hA30.bel hg; have hB31 := hB30.bel hg; have hd31 := hd30.trans' hg
              replace hf0 := hf0.bel hg
              replace hf1 := hf1.bel hg
              clear hg hA30 hB30 hd30
              first | refine hK.out _ _ ?_ (fun hHeld => ?_) | (go_wp2_with fail; refine hK.out _ _ ?_ (fun hHeld => ?_))
              · (try dsimp only); exact ⟨hA31.cells, hB31.cells⟩
              clear hK K hHeld
              try simp only [Act.put, List.setIfInBounds_toArray, List.set_cons_zero, List.set_cons_succ]
              have BD : RegA wc w131 w.heap.size (w.heap.size + 1) a b g0 g1 u v (applyA l a) (applyA l b) := ⟨⟨hf0, hf1, hne, hl0, hl1, hd31⟩, hA31, hB31, HU.out, HV.out⟩
              clear hf1 hl1 hne hf0 hl0 HU HV hA31 hB31 hd31
              revert BD; revert v; revert u; revert g1; revert g0; revert w131
              exact key
        · go_simp
          obtain ⟨w132, hW⟩ : ∃ x, x = w126.alloc (.cells #[.string ⟨#[]⟩, .string ⟨#[]⟩, .int .i64 0, .bool false, .string ⟨#[]⟩, .bool false, .string ⟨#[]⟩, .bool false, .string ⟨#[]⟩, .bool false, .string ⟨#[]⟩] 26) := ⟨_, rfl⟩
          have hg : Bel w126 w132 := by rw [hW]; exact bel_alloc _ _
          have hN : AtomAt w132 w126.heap.size zeroA := by rw [hW]; exact AtomAt.new w126 zeroA
          have hl : wc.heap.size ≤ w126.heap.size := hd26.size
          have hne : w126.heap.size ≠ g1 := Nat.ne_of_gt (AtomAt.lt hf1)
          rw [← hW]
          clear hW
          have hA32 := hA26.bel hg; have hB32 := hB26.bel hg; have hd32 := hd26.trans' hg
          replace hf1 := hf1.bel hg
          generalize w126.heap.size = g0 at hN hl hne ⊢
          have hf0 := hN; have hl0 := hl; clear hN hl
          replace hne := Ne.symm hne
          clear hg hA26 hB26 hd26
          first | refine hK.out _ _ ?_ (fun hHeld => ?_) | (go_wp2_with fail; refine hK.out _ _ ?_ (fun hHeld => ?_))
          · (try dsimp only); exact ⟨hA32.cells, hB32.cells⟩
          clear hK K hHeld
          try simp only [Act.put, List.setIfInBounds_toArray, List.set_cons_zero, List.set_cons_succ]
          refine wpAnyH_ready (rs := [2]) (by kernel_rfl) (by simp) ?_
          refine (AllReadyH.cons (o := { dst := some 76, op := Go.Op.call { callee := Go.Callee.value (Go.Operand.func 12), args := #[Go.Operand.tmp 74, Go.Operand.tmp 75], argTypes := #[27, 26] }, type := 26, pos := "law.go:75", after := #[{ on := 0, ground := Go.Ground.data }, { on := 1, ground := Go.Ground.data }], guard := none }) rfl (fun K hK => ?_) AllReadyH.nil)
          · go_simp
            go_at_call 12
            refine (hX1.out _ hd32).mono ?_
            rintro e w133 ⟨⟨u, HU, rfl⟩, hg⟩
            have hA33 := hA32.bel hg; have hB33 := hB32.bel hg; have hd33 := hd32.trans' hg
            replace hf0 := hf0.bel hg
            replace hf1 := hf1.bel hg
            clear hg hA32 hB32 hd32
            first | refine hK.out _ _ ?_ (fun hHeld => ?_) | (go_wp2_with fail; refine hK.out _ _ ?_ (fun hHeld => ?_))
            · (try dsimp only); exact ⟨hA33.cells, hB33.cells⟩
            clear hK K hHeld
            try simp only [Act.put, List.setIfInBounds_toArray, List.set_cons_zero, List.set_cons_succ]
            refine wpAnyH_ready (rs := [5]) (by kernel_rfl) (by simp) ?_
            refine (AllReadyH.cons (o := { dst := some 79, op := Go.Op.call { callee := Go.Callee.value (Go.Operand.func 12), args := #[Go.Operand.tmp 77, Go.Operand.tmp 78], argTypes := #[27, 26] }, type := 26, pos := "law.go:75", after := #[{ on := 3, ground := Go.Ground.data }, { on := 4, ground := Go.Ground.data }, { on := 2, ground := Go.Ground.chain }], guard := none }) rfl (fun K hK => ?_) AllReadyH.nil)
            · go_simp
              go_at_call 12
              refine (hX2.out _ hd33).mono ?_
              rintro e w134 ⟨⟨v, HV, rfl⟩, hg⟩
              have hA34 := hA33.bel hg; have hB34 := hB33.bel hg; have hd34 := hd33.trans' hg
              replace hf0 := hf0.bel hg
              replace hf1 := hf1.bel hg
              clear hg hA33 hB33 hd33
              first | refine hK.out _ _ ?_ (fun hHeld => ?_) | (go_wp2_with fail; refine hK.out _ _ ?_ (fun hHeld => ?_))
              · (try dsimp only); exact ⟨hA34.cells, hB34.cells⟩
              clear hK K hHeld
              try simp only [Act.put, List.setIfInBounds_toArray, List.set_cons_zero, List.set_cons_succ]
              have BD : RegA wc w134 w.heap.size (w.heap.size + 1) a b g0 g1 u v (applyA l a) (applyA l b) := ⟨⟨hf0, hf1, hne, hl0, hl1, hd34⟩, hA34, hB34, HU.out, HV.out⟩
              clear hf1 hl1 hne hf0 hl0 HU HV hA34 hB34 hd34
              revert BD; revert v; revert u; revert g1; revert g0; revert w134
              exact key
    · intro W g0 g1 u v BD
      refine wpAnyH_ready (rs := [8]) (by kernel_rfl) (by simp) ?_
      refine AllReadyH.cons (o := { dst := none, op := Go.Op.store 26 (Go.Operand.tmp 11) (Go.Operand.tmp 76), type := 0, pos := "law.go:75", after := #[{ on := 6, ground := Go.Ground.data }, { on := 2, ground := Go.Ground.data }, { on := 5, ground := Go.Ground.chain }, { on := 0, ground := Go.Ground.phase }, { on := 1, ground := Go.Ground.phase }, { on := 2, ground := Go.Ground.phase }, { on := 3, ground := Go.Ground.textOnly Go.Departure.lateStores }, { on := 4, ground := Go.Ground.textOnly Go.Departure.lateStores }, { on := 5, ground := Go.Ground.textOnly Go.Departure.lateStoresUnsure }, { on := 6, ground := Go.Ground.phase }, { on := 7, ground := Go.Ground.phase }], guard := none }) rfl (fun K hK => ?_) AllReadyH.nil
      refine step_store_atom rfl (.tmp 11) (.tmp 76) rfl g0 u rfl rfl BD.two.fst ?_
      intro w201 hx1 hb1 ho1
      have T3 := BD.two.next hx1 hb1 ho1
      have hA := HP1.out.bel T3.bel; have hB := HG1.out.bel T3.bel
      refine hK.out _ _ (⟨hA.cells, hB.cells⟩) (fun hHeld => ?_)
      clear hK K hHeld
      try simp only [Act.put, List.setIfInBounds_toArray, List.set_cons_zero, List.set_cons_succ]
      refine wpAnyH_ready (rs := [9]) (by kernel_rfl) (by simp) ?_
      refine AllReadyH.cons (o := { dst := none, op := Go.Op.store 26 (Go.Operand.tmp 12) (Go.Operand.tmp 79), type := 0, pos := "law.go:75", after := #[{ on := 7, ground := Go.Ground.data }, { on := 5, ground := Go.Ground.data }, { on := 8, ground := Go.Ground.chain }, { on := 0, ground := Go.Ground.phase }, { on := 1, ground := Go.Ground.phase }, { on := 2, ground := Go.Ground.phase }, { on := 3, ground := Go.Ground.phase }, { on := 4, ground := Go.Ground.phase }, { on := 5, ground := Go.Ground.phase }, { on := 6, ground := Go.Ground.phase }, { on := 7, ground := Go.Ground.phase }, { on := 8, ground := Go.Ground.phase }], guard := none }) rfl (fun K hK => ?_) AllReadyH.nil
      refine step_store_atom rfl (.tmp 12) (.tmp 79) rfl g1 v rfl rfl T3.snd ?_
      intro w202 hx2 hb2 ho2
      have T4 := T3.last hx2 hb2 ho2
      replace hA := HP1.out.bel T4.2.2; replace hB := HG1.out.bel T4.2.2
      refine hK.out _ _ (⟨hA.cells, hB.cells⟩) (fun hHeld => ?_)
      clear hK K hHeld
      try simp only [Act.put, List.setIfInBounds_toArray, List.set_cons_zero, List.set_cons_succ]
      refine wpAnyH_done (by kernel_rfl) ?_ _
      go_wp2_with fail
      go_meet
      exact ⟨_, _, u, v, rfl, rfl, Lib.hid ⟨BD.eu, BD.ev, T4.1, T4.2.1, T4.2.2⟩⟩
  obtain ⟨b11, b12, x, y, rfl, rfl, HC2⟩ := hcut
  have HX := Lib.hid HC2.out.1
  have HY := Lib.hid HC2.out.2.1
  have HBc := Lib.hid HC2.out.2.2.2.2
  have HXa := Lib.hid HC2.out.2.2.1
  have HYa := Lib.hid HC2.out.2.2.2.1
  have HB2 := Lib.hid (HB1.out.trans' HBc.out)
  have HP2 := Lib.hid (HP1.out.bel HBc.out)
  obtain ⟨c0, c1, c2, c3, c4, c5, c6, c7, c8, c9, c10⟩ := HXa.out.cells
  obtain ⟨d0, d1, d2, d3, d4, d5, d6, d7, d8, d9, d10⟩ := HYa.out.cells
  have hqn := neq_atom x y
  by_cases hxy : x = y
  case neg =>
    have hqe : eqA x y = false := by rw [← Bool.not_eq_true, eqA_iff]; exact hxy
    rw [hqe] at hqn
    clear hqe hxy
    go_wp2
    go_ret
    exact ⟨rfl, HB2.out⟩
  have hqe : eqA x y = true := (eqA_iff _ _).2 hxy
  rw [hqe] at hqn
  have HMO := Lib.hid (uni_most HCA.out HCB.out (HX.out.symm.trans (hxy.trans HY.out)))
  cases is
  case false =>
    exfalso
    obtain ⟨n, h1, _⟩ := HMO.out
    rw [(uniR_none HE.out).2] at h1
    cases h1
  have HMA : RowKit.Hid (applyA l (applyA m a) = x) := Lib.hid (by
    obtain ⟨n, h1, h2⟩ := HMO.out
    rw [uniR_some HE.out] at h1
    injection h1 with h1
    rw [h1, h2, HX.out])
  clear hqe hxy hX1 hX2 HMO
  have hA1 := Lib.hid (fun W (hg : Bel w9 W) => hAm.out W hg a)
  obtain ⟨z, hz⟩ : ∃ z, z = applyA m a := ⟨_, rfl⟩
  rw [← hz] at hA1 HMA
  have hA2 := Lib.hid (fun W (hg : Bel w9 W) => hAl.out W hg z)
  rw [HMA.out] at hA2
  have hd : Bel w9 wc.drew := bel_drew' (HC.out.trans' HBc.out)
  have hP := HP2.out.drew
  have hQ := HXa.out.drew
  obtain ⟨g0, g1, g2, g3, g4, g5, g6, g7, g8, g9, g10⟩ := HP2.out.cells
  have hqx : eqA x x = true := (eqA_iff _ _).2 rfl
  have hqq := eql_atom x x
  rw [hqx] at hqq
  clear hqx hz hAm hAl
  go_wp2
  go_region_held3 (fun w' => (w'.cell? ⟨w.heap.size, 0, none⟩ = some (.string a.says) ∧ w'.cell? ⟨w.heap.size, 1, none⟩ = some (.string a.pred) ∧ w'.cell? ⟨w.heap.size, 2, none⟩ = some (.int .i64 a.n) ∧ w'.cell? ⟨w.heap.size, 3, none⟩ = some (.bool a.t0.v) ∧ w'.cell? ⟨w.heap.size, 4, none⟩ = some (.string a.t0.name) ∧ w'.cell? ⟨w.heap.size, 5, none⟩ = some (.bool a.t1.v) ∧ w'.cell? ⟨w.heap.size, 6, none⟩ = some (.string a.t1.name) ∧ w'.cell? ⟨w.heap.size, 7, none⟩ = some (.bool a.t2.v) ∧ w'.cell? ⟨w.heap.size, 8, none⟩ = some (.string a.t2.name) ∧ w'.cell? ⟨w.heap.size, 9, none⟩ = some (.bool a.t3.v) ∧ w'.cell? ⟨w.heap.size, 10, none⟩ = some (.string a.t3.name)) ∧ (w'.cell? ⟨b11, 0, none⟩ = some (.string x.says) ∧ w'.cell? ⟨b11, 1, none⟩ = some (.string x.pred) ∧ w'.cell? ⟨b11, 2, none⟩ = some (.int .i64 x.n) ∧ w'.cell? ⟨b11, 3, none⟩ = some (.bool x.t0.v) ∧ w'.cell? ⟨b11, 4, none⟩ = some (.string x.t0.name) ∧ w'.cell? ⟨b11, 5, none⟩ = some (.bool x.t1.v) ∧ w'.cell? ⟨b11, 6, none⟩ = some (.string x.t1.name) ∧ w'.cell? ⟨b11, 7, none⟩ = some (.bool x.t2.v) ∧ w'.cell? ⟨b11, 8, none⟩ = some (.string x.t2.name) ∧ w'.cell? ⟨b11, 9, none⟩ = some (.bool x.t3.v) ∧ w'.cell? ⟨b11, 10, none⟩ = some (.string x.t3.name))) (first | exact ⟨hP.cells, hQ.cells⟩ | go_keep | trivial)
    (first | (go_at_call 12; refine (hA1.out _ hd).mono ?_; rintro e w30 ⟨⟨y1, HY1, rfl⟩, hg⟩; obtain rfl := HY1.out.symm; clear hA1; replace hP := hP.bel hg; replace hQ := hQ.bel hg; replace hd := hd.trans' hg; clear hg) | (go_at_call 12; refine (hA2.out _ hd).mono ?_; rintro e w30 ⟨⟨y1, HY1, rfl⟩, hg⟩; obtain rfl := HY1.out.symm; replace hP := hP.bel hg; replace hQ := hQ.bel hg; replace hd := hd.trans' hg; clear hg))
  all_goals go_wp2
  all_goals go_ret
  all_goals exact ⟨rfl, (HB0.out.trans' hd)⟩
end Go.Proofs.Ytkcnbdlhggoojaa
