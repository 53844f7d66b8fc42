/-
  The law MatchMakes for every input. Conditions: what came in lies as its parameters' types say.
-/
import Derived.Test.YtlbollmmomheoaaMaL
namespace Go.Proofs.Ytlbollmmomheoaa
open Go.RowKit

theorem extR_of {p g : AtomD} {m : List BindD} {is : Bool} (h : (m, is) = extR [] p g) (hi : is = true) : extD [] p g = some m := by
  subst hi
  unfold extR at h
  obtain ⟨h1, h2⟩ := Prod.mk.inj h
  cases e : extD [] p g with
  | none => rw [e] at h2; cases h2
  | some n => rw [e] at h1; exact congrArg some h1.symm
theorem extR_is {p g : AtomD} {m : List BindD} {is : Bool} (h : (m, is) = extR [] p g) : is = matchB p g := congrArg Prod.snd h
theorem apply_okB {l : List BindD} (hl : BindsOk l) {a : AtomD} (ha : AtomOk a) : AtomOk (applyA l a) := by
  have hs : ∀ t : TermD, t.name.size ≤ 9223372036854775807 → (subT l t).name.size ≤ 9223372036854775807 := fun t ht => by
    unfold subT
    split
    · cases e : getB l t.name with
      | none => exact ht
      | some u => exact (hl _ (getB_mem e)).2
    · exact ht
  refine ⟨ha.says, ha.pred, ha.n, ?_, ?_, ?_, ?_⟩
  all_goals
    unfold applyA
    simp only
    split
  · exact hs _ ha.t0
  · exact ha.t0
  · exact hs _ ha.t1
  · exact ha.t1
  · exact hs _ ha.t2
  · exact ha.t2
  · exact hs _ ha.t3
  · exact ha.t3
set_option maxRecDepth 20000 in
set_option maxHeartbeats 16000000 in
theorem lawMatchMakes (p g : AtomD) (A : Option Addr) (l : List BindD) (ca : Nat) (w : World) (hpk : AtomOk p) (hgk : AtomOk g) (hL : BL w A ca l) (hll : l.length ≤ 9223372036854775807) (hkl : BindsOk l) :
    Calls Try.prog 6 #[.agg #[.string p.says, .string p.pred, .int .i64 p.n, .bool p.t0.v, .string p.t0.name, .bool p.t1.v, .string p.t1.name, .bool p.t2.v, .string p.t2.name, .bool p.t3.v, .string p.t3.name], .agg #[.string g.says, .string g.pred, .int .i64 g.n, .bool g.t0.v, .string g.t0.name, .bool g.t1.v, .string g.t1.name, .bool g.t2.v, .string g.t2.name, .bool g.t3.v, .string g.t3.name], .slice A l.length ca] w fun e w' => e = .returned (.bool true) ∧ Bel w w' := by
  have hP := AtomAt.new w p
  have hP := hP.bel (bel_alloc (w.alloc (.cells #[.string p.says, .string p.pred, .int .i64 p.n, .bool p.t0.v, .string p.t0.name, .bool p.t1.v, .string p.t1.name, .bool p.t2.v, .string p.t2.name, .bool p.t3.v, .string p.t3.name] 43)) (.cells #[.string g.says, .string g.pred, .int .i64 g.n, .bool g.t0.v, .string g.t0.name, .bool g.t1.v, .string g.t1.name, .bool g.t2.v, .string g.t2.name, .bool g.t3.v, .string g.t3.name] 43))
  have hG := AtomAt.new (w.alloc (.cells #[.string p.says, .string p.pred, .int .i64 p.n, .bool p.t0.v, .string p.t0.name, .bool p.t1.v, .string p.t1.name, .bool p.t2.v, .string p.t2.name, .bool p.t3.v, .string p.t3.name] 43)) g
  rw [show (w.alloc (.cells #[.string p.says, .string p.pred, .int .i64 p.n, .bool p.t0.v, .string p.t0.name, .bool p.t1.v, .string p.t1.name, .bool p.t2.v, .string p.t2.name, .bool p.t3.v, .string p.t3.name] 43)).heap.size = w.heap.size + 1 by simp] at hG
  have hb := (bel_alloc w (.cells #[.string p.says, .string p.pred, .int .i64 p.n, .bool p.t0.v, .string p.t0.name, .bool p.t1.v, .string p.t1.name, .bool p.t2.v, .string p.t2.name, .bool p.t3.v, .string p.t3.name] 43)).trans' (bel_alloc (w.alloc (.cells #[.string p.says, .string p.pred, .int .i64 p.n, .bool p.t0.v, .string p.t0.name, .bool p.t1.v, .string p.t1.name, .bool p.t2.v, .string p.t2.name, .bool p.t3.v, .string p.t3.name] 43)) (.cells #[.string g.says, .string g.pred, .int .i64 g.n, .bool g.t0.v, .string g.t0.name, .bool g.t1.v, .string g.t1.name, .bool g.t2.v, .string g.t2.name, .bool g.t3.v, .string g.t3.name] 43))
  have HL := Lib.hid hL
  have HKL := Lib.hid hkl
  have HPK := Lib.hid hpk
  clear hL hkl
  have hLl := Lib.hid (fun W (hg : Bel w W) => lightBs_any A l ca W (HL.out.bel hg) hll HKL.out)
  have hLp := Lib.hid (fun W => light_any p W hpk)
  have hKp := Lib.hid (fun W => rCheck_any p W hpk)
  have hLg := Lib.hid (fun W => light_any g W hgk)
  have hKg := Lib.hid (fun W => rCheck_any g W hgk)
  cases q0 : lightBs l
  case false =>
    rw [q0] at hLl
    clear q0
    go_enter Try.func6, Try.ntmps6
    go_wp2_with (fail)
    refine (lives5_any _).mono ?_
    rintro e w1 ⟨rfl, hg⟩
    have hP := hP.bel hg
    have hG := hG.bel hg
    have hb := hb.trans' hg
    clear hg
    go_wp2_with (fail)
    refine (hLl.out _ hb).mono ?_
    rintro e w2 ⟨rfl, hg⟩
    have hP := hP.bel hg
    have hG := hG.bel hg
    have hb := hb.trans' hg
    clear hg
    obtain ⟨c0, c1, c2, c3, c4, c5, c6, c7, c8, c9, c10⟩ := hP.cells
    go_wp2
    go_ret
    exact ⟨rfl, hb⟩
  rw [q0] at hLl
  cases q1 : lightA p
  case false =>
    rw [q1] at hLp
    clear q1 q0
    go_enter Try.func6, Try.ntmps6
    go_wp2_with (fail)
    refine (lives5_any _).mono ?_
    rintro e w1 ⟨rfl, hg⟩
    have hP := hP.bel hg
    have hG := hG.bel hg
    have hb := hb.trans' hg
    clear hg
    go_wp2_with (fail)
    refine (hLl.out _ hb).mono ?_
    rintro e w2 ⟨rfl, hg⟩
    have hP := hP.bel hg
    have hG := hG.bel hg
    have hb := hb.trans' hg
    clear hg
    obtain ⟨c0, c1, c2, c3, c4, c5, c6, c7, c8, c9, c10⟩ := hP.cells
    go_wp2_with (fail)
    refine (hLp.out _).mono ?_
    rintro e w3 ⟨rfl, hg⟩
    have hP := hP.bel hg
    have hG := hG.bel hg
    have hb := hb.trans' hg
    clear hg
    clear c0 c1 c2 c3 c4 c5 c6 c7 c8 c9 c10
    obtain ⟨c0, c1, c2, c3, c4, c5, c6, c7, c8, c9, c10⟩ := hG.cells
    go_wp2
    go_ret
    exact ⟨rfl, hb⟩
  rw [q1] at hLp
  cases q2 : lightA g
  case false =>
    rw [q2] at hLg
    clear q2 q0 q1
    go_enter Try.func6, Try.ntmps6
    go_wp2_with (fail)
    refine (lives5_any _).mono ?_
    rintro e w1 ⟨rfl, hg⟩
    have hP := hP.bel hg
    have hG := hG.bel hg
    have hb := hb.trans' hg
    clear hg
    go_wp2_with (fail)
    refine (hLl.out _ hb).mono ?_
    rintro e w2 ⟨rfl, hg⟩
    have hP := hP.bel hg
    have hG := hG.bel hg
    have hb := hb.trans' hg
    clear hg
    obtain ⟨c0, c1, c2, c3, c4, c5, c6, c7, c8, c9, c10⟩ := hP.cells
    go_wp2_with (fail)
    refine (hLp.out _).mono ?_
    rintro e w3 ⟨rfl, hg⟩
    have hP := hP.bel hg
    have hG := hG.bel hg
    have hb := hb.trans' hg
    clear hg
    clear c0 c1 c2 c3 c4 c5 c6 c7 c8 c9 c10
    obtain ⟨c0, c1, c2, c3, c4, c5, c6, c7, c8, c9, c10⟩ := hG.cells
    go_wp2_with (fail)
    refine (hLg.out _).mono ?_
    rintro e w4 ⟨rfl, hg⟩
    have hP := hP.bel hg
    have hG := hG.bel hg
    have hb := hb.trans' hg
    clear hg
    clear c0 c1 c2 c3 c4 c5 c6 c7 c8 c9 c10
    obtain ⟨c0, c1, c2, c3, c4, c5, c6, c7, c8, c9, c10⟩ := hP.cells
    go_wp2
    go_ret
    exact ⟨rfl, hb⟩
  rw [q2] at hLg
  by_cases q3 : checkD p = 0
  case neg =>
    have hz : (checkD p != 0) = true := by simpa using q3
    have hz2 : (checkD p == 0) = false := by simpa using q3
    clear q0 q1 q2 q3
    go_enter Try.func6, Try.ntmps6
    go_wp2_with (fail)
    refine (lives5_any _).mono ?_
    rintro e w1 ⟨rfl, hg⟩
    have hP := hP.bel hg
    have hG := hG.bel hg
    have hb := hb.trans' hg
    clear hg
    go_wp2_with (fail)
    refine (hLl.out _ hb).mono ?_
    rintro e w2 ⟨rfl, hg⟩
    have hP := hP.bel hg
    have hG := hG.bel hg
    have hb := hb.trans' hg
    clear hg
    obtain ⟨c0, c1, c2, c3, c4, c5, c6, c7, c8, c9, c10⟩ := hP.cells
    go_wp2_with (fail)
    refine (hLp.out _).mono ?_
    rintro e w3 ⟨rfl, hg⟩
    have hP := hP.bel hg
    have hG := hG.bel hg
    have hb := hb.trans' hg
    clear hg
    clear c0 c1 c2 c3 c4 c5 c6 c7 c8 c9 c10
    obtain ⟨c0, c1, c2, c3, c4, c5, c6, c7, c8, c9, c10⟩ := hG.cells
    go_wp2_with (fail)
    refine (hLg.out _).mono ?_
    rintro e w4 ⟨rfl, hg⟩
    have hP := hP.bel hg
    have hG := hG.bel hg
    have hb := hb.trans' hg
    clear hg
    clear c0 c1 c2 c3 c4 c5 c6 c7 c8 c9 c10
    obtain ⟨c0, c1, c2, c3, c4, c5, c6, c7, c8, c9, c10⟩ := hP.cells
    go_wp2_with (fail)
    refine (hKp.out _).mono ?_
    rintro e w5 ⟨rfl, hg⟩
    have hP := hP.bel hg
    have hG := hG.bel hg
    have hb := hb.trans' hg
    clear hg
    clear c0 c1 c2 c3 c4 c5 c6 c7 c8 c9 c10
    obtain ⟨c0, c1, c2, c3, c4, c5, c6, c7, c8, c9, c10⟩ := hP.cells
    obtain ⟨d0, d1, d2, d3, d4, d5, d6, d7, d8, d9, d10⟩ := hG.cells
    go_wp2
    go_ret
    exact ⟨rfl, hb⟩
  rw [q3] at hKp
  have hl20 : l.length ≤ 20 := by
    have := q0
    unfold lightBs at this
    simp only [Bool.and_eq_true, decide_eq_true_eq] at this
    omega
  have HCP := Lib.hid q3
  clear q0 q1 q2 q3
  have hMt := Lib.hid (fun W => Match_any p g W)
  go_enter Try.func6, Try.ntmps6
  go_wp2_with (fail)
  refine (lives5_any _).mono ?_
  rintro e w1 ⟨rfl, hg⟩
  have hP := hP.bel hg
  have hG := hG.bel hg
  have hb := hb.trans' hg
  clear hg
  go_wp2_with (fail)
  refine (hLl.out _ hb).mono ?_
  rintro e w2 ⟨rfl, hg⟩
  have hP := hP.bel hg
  have hG := hG.bel hg
  have hb := hb.trans' hg
  clear hg
  obtain ⟨c0, c1, c2, c3, c4, c5, c6, c7, c8, c9, c10⟩ := hP.cells
  go_wp2_with (fail)
  refine (hLp.out _).mono ?_
  rintro e w3 ⟨rfl, hg⟩
  have hP := hP.bel hg
  have hG := hG.bel hg
  have hb := hb.trans' hg
  clear hg
  clear c0 c1 c2 c3 c4 c5 c6 c7 c8 c9 c10
  obtain ⟨c0, c1, c2, c3, c4, c5, c6, c7, c8, c9, c10⟩ := hG.cells
  go_wp2_with (fail)
  refine (hLg.out _).mono ?_
  rintro e w4 ⟨rfl, hg⟩
  have hP := hP.bel hg
  have hG := hG.bel hg
  have hb := hb.trans' hg
  clear hg
  clear c0 c1 c2 c3 c4 c5 c6 c7 c8 c9 c10
  obtain ⟨c0, c1, c2, c3, c4, c5, c6, c7, c8, c9, c10⟩ := hP.cells
  go_wp2_with (fail)
  refine (hKp.out _).mono ?_
  rintro e w5 ⟨rfl, hg⟩
  have hP := hP.bel hg
  have hG := hG.bel hg
  have hb := hb.trans' hg
  clear hg
  clear c0 c1 c2 c3 c4 c5 c6 c7 c8 c9 c10
  obtain ⟨c0, c1, c2, c3, c4, c5, c6, c7, c8, c9, c10⟩ := hP.cells
  obtain ⟨d0, d1, d2, d3, d4, d5, d6, d7, d8, d9, d10⟩ := hG.cells
  go_wp2_with (fail)
  refine (hMt.out _).mono ?_
  rintro e w6 ⟨⟨q6, k6, m, is, HE, HO, rfl⟩, hg⟩
  have hP := hP.bel hg
  have hG := hG.bel hg
  have hb := hb.trans' hg
  clear hg
  clear c0 c1 c2 c3 c4 c5 c6 c7 c8 c9 c10
  clear d0 d1 d2 d3 d4 d5 d6 d7 d8 d9 d10
  have HM := Lib.hid (OwnL.slice EB HO.out)
  have HIS := Lib.hid (extR_is HE.out)
  clear hLl hLp hLg hKp hMt HO
  have HB0 := Lib.hid hb
  have HP0 := Lib.hid hP
  have HG0 := Lib.hid hG
  clear hb hP hG
  go_upto_if 38 with fail
  go_cut [] (fun wx => RowKit.Hid (Bel w6 wx))
  case first =>
    cases is
    · go_wp2_with fail
      go_meet
      exact Lib.hid (Below.refl _ _)
    have HEX := Lib.hid (extR_of HE.out rfl)
    have hm4 : m.length ≤ 4 := by rw [make_len HEX.out]; exact varsA_len p
    have hC4 := Lib.hid (fun W (hg : Bel w6 W) => rCheck4_any q6 m m.length k6 rfl W (HM.out.bel hg) (by omega))
    rw [errB_ok (make_check Flat.nil HEX.out)] at hC4
    have hAp := Lib.hid (fun W (hg : Bel w6 W) => rApply_any q6 m k6 p W (HM.out.bel hg) (by omega))
    have hVs := Lib.hid (fun W => rvars_any p W _ rfl)
    rw [show namesD true ((argsD p).take (cntI p.n)) = varsA p from rfl] at hVs
    have hln : ((m.length : Int) != ((varsA p).length : Int)) = false := by rw [make_len HEX.out]; simp
    have hln2 : ((m.length : Int) == ((varsA p).length : Int)) = true := by rw [make_len HEX.out]; simp
    have hd : Bel w6 w6.drew := bel_drew' (Below.refl _ _)
    have hP := HP0.out.drew
    have hG := HG0.out.drew
    obtain ⟨c0, c1, c2, c3, c4, c5, c6, c7, c8, c9, c10⟩ := HP0.out.cells
    obtain ⟨d0, d1, d2, d3, d4, d5, d6, d7, d8, d9, d10⟩ := HG0.out.cells
    by_cases cg : checkD g = 0
    · rw [cg] at hKg
      rw [make_atom HCP.out cg HEX.out] at hAp
      have hqe : eqA g g = true := (eqA_iff _ _).2 rfl
      have hqn := neq_atom g g
      rw [hqe] at hqn
      clear cg hqe
      go_wp2
      go_region_held3 (fun w' => (w'.cell? ⟨w.heap.size, 0, none⟩ = some (.string p.says) ∧ w'.cell? ⟨w.heap.size, 1, none⟩ = some (.string p.pred) ∧ w'.cell? ⟨w.heap.size, 2, none⟩ = some (.int .i64 p.n) ∧ w'.cell? ⟨w.heap.size, 3, none⟩ = some (.bool p.t0.v) ∧ w'.cell? ⟨w.heap.size, 4, none⟩ = some (.string p.t0.name) ∧ w'.cell? ⟨w.heap.size, 5, none⟩ = some (.bool p.t1.v) ∧ w'.cell? ⟨w.heap.size, 6, none⟩ = some (.string p.t1.name) ∧ w'.cell? ⟨w.heap.size, 7, none⟩ = some (.bool p.t2.v) ∧ w'.cell? ⟨w.heap.size, 8, none⟩ = some (.string p.t2.name) ∧ w'.cell? ⟨w.heap.size, 9, none⟩ = some (.bool p.t3.v) ∧ w'.cell? ⟨w.heap.size, 10, none⟩ = some (.string p.t3.name)) ∧ (w'.cell? ⟨w.heap.size + 1, 0, none⟩ = some (.string g.says) ∧ w'.cell? ⟨w.heap.size + 1, 1, none⟩ = some (.string g.pred) ∧ w'.cell? ⟨w.heap.size + 1, 2, none⟩ = some (.int .i64 g.n) ∧ w'.cell? ⟨w.heap.size + 1, 3, none⟩ = some (.bool g.t0.v) ∧ w'.cell? ⟨w.heap.size + 1, 4, none⟩ = some (.string g.t0.name) ∧ w'.cell? ⟨w.heap.size + 1, 5, none⟩ = some (.bool g.t1.v) ∧ w'.cell? ⟨w.heap.size + 1, 6, none⟩ = some (.string g.t1.name) ∧ w'.cell? ⟨w.heap.size + 1, 7, none⟩ = some (.bool g.t2.v) ∧ w'.cell? ⟨w.heap.size + 1, 8, none⟩ = some (.string g.t2.name) ∧ w'.cell? ⟨w.heap.size + 1, 9, none⟩ = some (.bool g.t3.v) ∧ w'.cell? ⟨w.heap.size + 1, 10, none⟩ = some (.string g.t3.name))) (first | exact ⟨hP.cells, hG.cells⟩ | go_keep | trivial)
        (first | (go_at_call 39; refine (hC4.out _ hd).mono ?_; rintro e w20 ⟨rfl, hg⟩; have hP := hP.bel hg; have hG := hG.bel hg; have hd := hd.trans' hg; clear hg) | (go_at_call 22; refine (hKg.out _).mono ?_; rintro e w20 ⟨rfl, hg⟩; have hP := hP.bel hg; have hG := hG.bel hg; have hd := hd.trans' hg; clear hg) | (go_at_call 40; refine (hAp.out _ hd).mono ?_; rintro e w20 ⟨⟨y1, HY1, rfl⟩, hg⟩; obtain rfl := HY1.out.symm; have hP := hP.bel hg; have hG := hG.bel hg; have hd := hd.trans' hg; clear hg) | (go_at_call 24; refine (hVs.out _).mono ?_; rintro e w20 ⟨⟨V, cv, hVL, rfl⟩, hg⟩; have hP := hP.bel hg; have hG := hG.bel hg; have hd := hd.trans' hg; clear hg))
      all_goals (go_wp2_with fail; go_meet)
      all_goals exact Lib.hid hd
    · have hz : (checkD g == 0) = false := by simpa using cg
      go_wp2
      refine wp_region_held_drew (S := (fun w' => (w'.cell? ⟨w.heap.size, 0, none⟩ = some (.string p.says) ∧ w'.cell? ⟨w.heap.size, 1, none⟩ = some (.string p.pred) ∧ w'.cell? ⟨w.heap.size, 2, none⟩ = some (.int .i64 p.n) ∧ w'.cell? ⟨w.heap.size, 3, none⟩ = some (.bool p.t0.v) ∧ w'.cell? ⟨w.heap.size, 4, none⟩ = some (.string p.t0.name) ∧ w'.cell? ⟨w.heap.size, 5, none⟩ = some (.bool p.t1.v) ∧ w'.cell? ⟨w.heap.size, 6, none⟩ = some (.string p.t1.name) ∧ w'.cell? ⟨w.heap.size, 7, none⟩ = some (.bool p.t2.v) ∧ w'.cell? ⟨w.heap.size, 8, none⟩ = some (.string p.t2.name) ∧ w'.cell? ⟨w.heap.size, 9, none⟩ = some (.bool p.t3.v) ∧ w'.cell? ⟨w.heap.size, 10, none⟩ = some (.string p.t3.name)) ∧ (w'.cell? ⟨w.heap.size + 1, 0, none⟩ = some (.string g.says) ∧ w'.cell? ⟨w.heap.size + 1, 1, none⟩ = some (.string g.pred) ∧ w'.cell? ⟨w.heap.size + 1, 2, none⟩ = some (.int .i64 g.n) ∧ w'.cell? ⟨w.heap.size + 1, 3, none⟩ = some (.bool g.t0.v) ∧ w'.cell? ⟨w.heap.size + 1, 4, none⟩ = some (.string g.t0.name) ∧ w'.cell? ⟨w.heap.size + 1, 5, none⟩ = some (.bool g.t1.v) ∧ w'.cell? ⟨w.heap.size + 1, 6, none⟩ = some (.string g.t1.name) ∧ w'.cell? ⟨w.heap.size + 1, 7, none⟩ = some (.bool g.t2.v) ∧ w'.cell? ⟨w.heap.size + 1, 8, none⟩ = some (.string g.t2.name) ∧ w'.cell? ⟨w.heap.size + 1, 9, none⟩ = some (.bool g.t3.v) ∧ w'.cell? ⟨w.heap.size + 1, 10, none⟩ = some (.string g.t3.name)))) (by kernel_rfl) (⟨hP.cells, hG.cells⟩) (fun hHeld => ?_)
      refine wpAnyH_take (i := 0) (oi := { dst := some 39, op := Go.Op.move (Go.Operand.tmp 7), type := 23, pos := "law.go:65", after := #[], guard := none }) (v := ?_) rfl (by kernel_rfl) (by kernel_rfl) (by kernel_rfl) (fun _ _ _ h => h) (Or.inl ⟨by rfl, ?_⟩) hHeld ?_
      rotate_left
      · (intro w hSw; (try dsimp only at hSw); go_simp)
        all_goals with_reducible rfl
      try simp only [Act.put, List.setIfInBounds_toArray, List.set_cons_zero, List.set_cons_succ]
      refine wpAnyH_ready (rs := [1]) (by kernel_rfl) (by simp) ?_
      refine AllReadyH.cons (o := { dst := some 40, op := Go.Op.call { callee := Go.Callee.value (Go.Operand.func 39), args := #[Go.Operand.tmp 39], argTypes := #[23] }, type := 24, pos := "law.go:65", after := #[{ on := 0, ground := Go.Ground.data }], guard := none }) rfl (fun K hK => ?_) AllReadyH.nil
      go_simp
      go_at_call 39
      refine (hC4.out _ hd).mono ?_
      rintro e w20 ⟨rfl, hg⟩
      have hP := hP.bel hg; have hG := hG.bel hg; have hd := hd.trans' hg; clear hg
      first | refine hK.out _ _ ?_ (fun hHeld => ?_) | (go_wp2_with fail; refine hK.out _ _ ?_ (fun hHeld => ?_))
      · (try dsimp only); exact ⟨hP.cells, hG.cells⟩
      clear hK K
      try simp only [Act.put, List.setIfInBounds_toArray, List.set_cons_zero, List.set_cons_succ]
      refine wpAnyH_take (i := 2) (oi := { dst := some 41, op := Go.Op.binOp Go.BinOp.neq 24 (Go.Operand.tmp 40) (Go.Operand.const (Go.Value.int Go.IntKind.i64 0)) 24, type := 4, pos := "law.go:65", after := #[{ on := 1, ground := Go.Ground.data }], guard := none }) (v := ?_) rfl (by kernel_rfl) (by kernel_rfl) (by kernel_rfl) (fun _ _ _ h => h) (Or.inl ⟨by rfl, ?_⟩) hHeld ?_
      rotate_left
      · (intro w hSw; (try dsimp only at hSw); go_simp)
        all_goals with_reducible rfl
      try simp only [Act.put, List.setIfInBounds_toArray, List.set_cons_zero, List.set_cons_succ]
      refine wpAnyH_take (i := 3) (oi := { dst := some 42, op := Go.Op.move (Go.Operand.tmp 41), type := 4, pos := "law.go:65", after := #[{ on := 2, ground := Go.Ground.data }, { on := 1, ground := Go.Ground.chain }], guard := none }) (v := ?_) rfl (by kernel_rfl) (by kernel_rfl) (by kernel_rfl) (fun _ _ _ h => h) (Or.inl ⟨by rfl, ?_⟩) hHeld ?_
      rotate_left
      · (intro w hSw; (try dsimp only at hSw); go_simp)
        all_goals with_reducible rfl
      try simp only [Act.put, List.setIfInBounds_toArray, List.set_cons_zero, List.set_cons_succ]
      refine wpAnyH_take (i := 4) (oi := { dst := some 43, op := Go.Op.load 43 (Go.Operand.tmp 4), type := 43, pos := "law.go:65", after := #[{ on := 3, ground := Go.Ground.guard }], guard := some (3, false) }) (v := ?_) rfl (by kernel_rfl) (by kernel_rfl) (by kernel_rfl) (fun _ _ _ h => h) (Or.inl ⟨by rfl, ?_⟩) hHeld ?_
      rotate_left
      · (intro w hSw; (try dsimp only at hSw); go_simp)
        all_goals with_reducible rfl
      try simp only [Act.put, List.setIfInBounds_toArray, List.set_cons_zero, List.set_cons_succ]
      refine wpAnyH_ready (rs := [5]) (by kernel_rfl) (by simp) ?_
      refine AllReadyH.cons (o := { dst := some 44, op := Go.Op.call { callee := Go.Callee.value (Go.Operand.func 22), args := #[Go.Operand.tmp 43], argTypes := #[43] }, type := 24, pos := "law.go:65", after := #[{ on := 4, ground := Go.Ground.data }, { on := 3, ground := Go.Ground.chain }, { on := 3, ground := Go.Ground.guard }], guard := some (3, false) }) rfl (fun K hK => ?_) AllReadyH.nil
      go_simp
      go_at_call 22
      refine (hKg.out _).mono ?_
      rintro e w20 ⟨rfl, hg⟩
      have hP := hP.bel hg; have hG := hG.bel hg; have hd := hd.trans' hg; clear hg
      first | refine hK.out _ _ ?_ (fun hHeld => ?_) | (go_wp2_with fail; refine hK.out _ _ ?_ (fun hHeld => ?_))
      · (try dsimp only); exact ⟨hP.cells, hG.cells⟩
      clear hK K
      try simp only [Act.put, List.setIfInBounds_toArray, List.set_cons_zero, List.set_cons_succ]
      refine wpAnyH_take (i := 6) (oi := { dst := some 45, op := Go.Op.binOp Go.BinOp.eql 24 (Go.Operand.tmp 44) (Go.Operand.const (Go.Value.int Go.IntKind.i64 0)) 24, type := 4, pos := "law.go:65", after := #[{ on := 5, ground := Go.Ground.data }, { on := 3, ground := Go.Ground.guard }], guard := some (3, false) }) (v := ?_) rfl (by kernel_rfl) (by kernel_rfl) (by kernel_rfl) (fun _ _ _ h => h) (Or.inl ⟨by rfl, ?_⟩) hHeld ?_
      rotate_left
      · (intro w hSw; (try dsimp only at hSw); go_simp)
        all_goals with_reducible rfl
      try simp only [Act.put, List.setIfInBounds_toArray, List.set_cons_zero, List.set_cons_succ]
      refine wpAnyH_take (i := 7) (oi := { dst := some 46, op := Go.Op.move (Go.Operand.tmp 45), type := 4, pos := "law.go:65", after := #[{ on := 6, ground := Go.Ground.data }, { on := 5, ground := Go.Ground.chain }, { on := 3, ground := Go.Ground.guard }], guard := some (3, false) }) (v := ?_) rfl (by kernel_rfl) (by kernel_rfl) (by kernel_rfl) (fun _ _ _ h => h) (Or.inl ⟨by rfl, ?_⟩) hHeld ?_
      rotate_left
      · (intro w hSw; (try dsimp only at hSw); go_simp)
        all_goals with_reducible rfl
      try simp only [Act.put, List.setIfInBounds_toArray, List.set_cons_zero, List.set_cons_succ]
      refine wpAnyH_take (i := 8) (oi := { dst := some 47, op := Go.Op.move (Go.Operand.tmp 7), type := 23, pos := "law.go:65", after := #[{ on := 7, ground := Go.Ground.guard }], guard := some (7, true) }) (v := undef) rfl (by kernel_rfl) (by kernel_rfl) (by kernel_rfl) (fun _ _ _ h => h) (Or.inr ⟨by kernel_rfl, rfl⟩) hHeld ?_
      try simp only [Act.put, List.setIfInBounds_toArray, List.set_cons_zero, List.set_cons_succ]
      refine wpAnyH_take (i := 9) (oi := { dst := some 48, op := Go.Op.load 43 (Go.Operand.tmp 3), type := 43, pos := "law.go:65", after := #[{ on := 7, ground := Go.Ground.guard }], guard := some (7, true) }) (v := undef) rfl (by kernel_rfl) (by kernel_rfl) (by kernel_rfl) (fun _ _ _ h => h) (Or.inr ⟨by kernel_rfl, rfl⟩) hHeld ?_
      try simp only [Act.put, List.setIfInBounds_toArray, List.set_cons_zero, List.set_cons_succ]
      refine wpAnyH_take (i := 11) (oi := { dst := some 50, op := Go.Op.load 43 (Go.Operand.tmp 4), type := 43, pos := "law.go:65", after := #[{ on := 7, ground := Go.Ground.guard }], guard := some (7, true) }) (v := undef) rfl (by kernel_rfl) (by kernel_rfl) (by kernel_rfl) (fun _ _ _ h => h) (Or.inr ⟨by kernel_rfl, rfl⟩) hHeld ?_
      try simp only [Act.put, List.setIfInBounds_toArray, List.set_cons_zero, List.set_cons_succ]
      refine wpAnyH_take (i := 10) (oi := { dst := some 49, op := Go.Op.call { callee := Go.Callee.value (Go.Operand.func 40), args := #[Go.Operand.tmp 47, Go.Operand.tmp 48], argTypes := #[23, 43] }, type := 43, pos := "law.go:65", after := #[{ on := 8, ground := Go.Ground.data }, { on := 9, ground := Go.Ground.data }, { on := 7, ground := Go.Ground.chain }, { on := 7, ground := Go.Ground.guard }], guard := some (7, true) }) (v := undef) rfl (by kernel_rfl) (by kernel_rfl) (by kernel_rfl) (fun _ _ _ h => h) (Or.inr ⟨by kernel_rfl, rfl⟩) hHeld ?_
      try simp only [Act.put, List.setIfInBounds_toArray, List.set_cons_zero, List.set_cons_succ]
      refine wpAnyH_take (i := 12) (oi := { dst := some 51, op := Go.Op.binOp Go.BinOp.neq 43 (Go.Operand.tmp 49) (Go.Operand.tmp 50) 43, type := 4, pos := "law.go:65", after := #[{ on := 10, ground := Go.Ground.data }, { on := 11, ground := Go.Ground.data }, { on := 7, ground := Go.Ground.guard }], guard := some (7, true) }) (v := undef) rfl (by kernel_rfl) (by kernel_rfl) (by kernel_rfl) (fun _ _ _ h => h) (Or.inr ⟨by kernel_rfl, rfl⟩) hHeld ?_
      try simp only [Act.put, List.setIfInBounds_toArray, List.set_cons_zero, List.set_cons_succ]
      refine wpAnyH_take (i := 13) (oi := { dst := some 52, op := Go.Op.pick (Go.Operand.tmp 46) (Go.Operand.tmp 51) (Go.Operand.const (Go.Value.bool false)), type := 4, pos := "law.go:65", after := #[{ on := 7, ground := Go.Ground.data }, { on := 12, ground := Go.Ground.data }, { on := 3, ground := Go.Ground.guard }], guard := some (3, false) }) (v := ?_) rfl (by kernel_rfl) (by kernel_rfl) (by kernel_rfl) (fun _ _ _ h => h) (Or.inl ⟨by rfl, ?_⟩) hHeld ?_
      rotate_left
      · (intro w hSw; (try dsimp only at hSw); go_simp)
        all_goals with_reducible rfl
      try simp only [Act.put, List.setIfInBounds_toArray, List.set_cons_zero, List.set_cons_succ]
      refine wpAnyH_take (i := 14) (oi := { dst := some 53, op := Go.Op.pick (Go.Operand.tmp 42) (Go.Operand.const (Go.Value.bool true)) (Go.Operand.tmp 52), type := 4, pos := "law.go:65", after := #[{ on := 3, ground := Go.Ground.data }, { on := 13, ground := Go.Ground.data }], guard := none }) (v := ?_) rfl (by kernel_rfl) (by kernel_rfl) (by kernel_rfl) (fun _ _ _ h => h) (Or.inl ⟨by rfl, ?_⟩) hHeld ?_
      rotate_left
      · (intro w hSw; (try dsimp only at hSw); go_simp)
        all_goals with_reducible rfl
      try simp only [Act.put, List.setIfInBounds_toArray, List.set_cons_zero, List.set_cons_succ]
      refine wpAnyH_take (i := 15) (oi := { dst := some 54, op := Go.Op.move (Go.Operand.tmp 53), type := 4, pos := "law.go:65", after := #[{ on := 14, ground := Go.Ground.data }, { on := 10, ground := Go.Ground.chain }], guard := none }) (v := ?_) rfl (by kernel_rfl) (by kernel_rfl) (by kernel_rfl) (fun _ _ _ h => h) (Or.inl ⟨by rfl, ?_⟩) hHeld ?_
      rotate_left
      · (intro w hSw; (try dsimp only at hSw); go_simp)
        all_goals with_reducible rfl
      try simp only [Act.put, List.setIfInBounds_toArray, List.set_cons_zero, List.set_cons_succ]
      refine wpAnyH_take (i := 16) (oi := { dst := some 55, op := Go.Op.move (Go.Operand.tmp 7), type := 23, pos := "law.go:65", after := #[{ on := 15, ground := Go.Ground.guard }], guard := some (15, false) }) (v := ?_) rfl (by kernel_rfl) (by kernel_rfl) (by kernel_rfl) (fun _ _ _ h => h) (Or.inl ⟨by rfl, ?_⟩) hHeld ?_
      rotate_left
      · (intro w hSw; (try dsimp only at hSw); go_simp)
        all_goals with_reducible rfl
      try simp only [Act.put, List.setIfInBounds_toArray, List.set_cons_zero, List.set_cons_succ]
      refine wpAnyH_take (i := 17) (oi := { dst := some 56, op := Go.Op.call { callee := Go.Callee.builtin Go.Builtin.len, args := #[Go.Operand.tmp 55], argTypes := #[23] }, type := 3, pos := "law.go:65", after := #[{ on := 16, ground := Go.Ground.data }, { on := 15, ground := Go.Ground.guard }], guard := some (15, false) }) (v := ?_) rfl (by kernel_rfl) (by kernel_rfl) (by kernel_rfl) (fun _ _ _ h => h) (Or.inl ⟨by rfl, ?_⟩) hHeld ?_
      rotate_left
      · (intro w hSw; (try dsimp only at hSw); go_simp)
        all_goals with_reducible rfl
      try simp only [Act.put, List.setIfInBounds_toArray, List.set_cons_zero, List.set_cons_succ]
      refine wpAnyH_take (i := 18) (oi := { dst := some 57, op := Go.Op.load 43 (Go.Operand.tmp 3), type := 43, pos := "law.go:65", after := #[{ on := 15, ground := Go.Ground.guard }], guard := some (15, false) }) (v := ?_) rfl (by kernel_rfl) (by kernel_rfl) (by kernel_rfl) (fun _ _ _ h => h) (Or.inl ⟨by rfl, ?_⟩) hHeld ?_
      rotate_left
      · (intro w hSw; (try dsimp only at hSw); go_simp)
        all_goals with_reducible rfl
      try simp only [Act.put, List.setIfInBounds_toArray, List.set_cons_zero, List.set_cons_succ]
      refine wpAnyH_ready (rs := [19]) (by kernel_rfl) (by simp) ?_
      refine AllReadyH.cons (o := { dst := some 58, op := Go.Op.call { callee := Go.Callee.value (Go.Operand.func 24), args := #[Go.Operand.tmp 57], argTypes := #[43] }, type := 39, pos := "law.go:65", after := #[{ on := 18, ground := Go.Ground.data }, { on := 15, ground := Go.Ground.chain }, { on := 15, ground := Go.Ground.guard }], guard := some (15, false) }) rfl (fun K hK => ?_) AllReadyH.nil
      go_simp
      go_at_call 24
      refine (hVs.out _).mono ?_
      rintro e w20 ⟨⟨V, cv, hVL, rfl⟩, hg⟩
      have hP := hP.bel hg; have hG := hG.bel hg; have hd := hd.trans' hg; clear hg
      first | refine hK.out _ _ ?_ (fun hHeld => ?_) | (go_wp2_with fail; refine hK.out _ _ ?_ (fun hHeld => ?_))
      · (try dsimp only); exact ⟨hP.cells, hG.cells⟩
      clear hK K
      try simp only [Act.put, List.setIfInBounds_toArray, List.set_cons_zero, List.set_cons_succ]
      refine wpAnyH_take (i := 20) (oi := { dst := some 59, op := Go.Op.call { callee := Go.Callee.builtin Go.Builtin.len, args := #[Go.Operand.tmp 58], argTypes := #[39] }, type := 3, pos := "law.go:65", after := #[{ on := 19, ground := Go.Ground.data }, { on := 15, ground := Go.Ground.guard }], guard := some (15, false) }) (v := ?_) rfl (by kernel_rfl) (by kernel_rfl) (by kernel_rfl) (fun _ _ _ h => h) (Or.inl ⟨by rfl, ?_⟩) hHeld ?_
      rotate_left
      · (intro w hSw; (try dsimp only at hSw); go_simp)
        all_goals with_reducible rfl
      try simp only [Act.put, List.setIfInBounds_toArray, List.set_cons_zero, List.set_cons_succ]
      refine wpAnyH_take (i := 21) (oi := { dst := some 60, op := Go.Op.binOp Go.BinOp.neq 3 (Go.Operand.tmp 56) (Go.Operand.tmp 59) 3, type := 4, pos := "law.go:65", after := #[{ on := 17, ground := Go.Ground.data }, { on := 20, ground := Go.Ground.data }, { on := 15, ground := Go.Ground.guard }], guard := some (15, false) }) (v := ?_) rfl (by kernel_rfl) (by kernel_rfl) (by kernel_rfl) (fun _ _ _ h => h) (Or.inl ⟨by rfl, ?_⟩) hHeld ?_
      rotate_left
      · (intro w hSw; (try dsimp only at hSw); go_simp)
        all_goals with_reducible rfl
      try simp only [Act.put, List.setIfInBounds_toArray, List.set_cons_zero, List.set_cons_succ]
      refine wpAnyH_take (i := 22) (oi := { dst := some 61, op := Go.Op.pick (Go.Operand.tmp 54) (Go.Operand.const (Go.Value.bool true)) (Go.Operand.tmp 60), type := 4, pos := "law.go:65", after := #[{ on := 15, ground := Go.Ground.data }, { on := 21, ground := Go.Ground.data }], guard := none }) (v := ?_) rfl (by kernel_rfl) (by kernel_rfl) (by kernel_rfl) (fun _ _ _ h => h) (Or.inl ⟨by rfl, ?_⟩) hHeld ?_
      rotate_left
      · (intro w hSw; (try dsimp only at hSw); go_simp)
        all_goals with_reducible rfl
      try simp only [Act.put, List.setIfInBounds_toArray, List.set_cons_zero, List.set_cons_succ]
      refine wpAnyH_done (by kernel_rfl) ?_ _
      all_goals (go_wp2_with fail; go_meet)
      all_goals exact Lib.hid hd
  have HC := hcut
  have hb := HB0.out.trans' HC.out
  have hP := HP0.out.bel HC.out
  have hG := HG0.out.bel HC.out
  obtain ⟨y, hy⟩ : ∃ y, y = applyA l p := ⟨_, rfl⟩
  have HYK : RowKit.Hid (AtomOk y) := Lib.hid (by rw [hy]; exact apply_okB HKL.out HPK.out)
  have hAl := Lib.hid (fun W (hg : Bel w W) => rApply_any A l ca p W (HL.out.bel hg) (by omega))
  rw [← hy] at hAl
  have hKy := Lib.hid (fun W => rCheck_any y W HYK.out)
  have hGy := Lib.hid (fun W => rGround_any y W)
  have hMy := Lib.hid (fun W => Match_any p y W)
  have HY := Lib.hid hy
  clear hy HB0 HP0 HG0 HC
  obtain ⟨c0, c1, c2, c3, c4, c5, c6, c7, c8, c9, c10⟩ := hP.cells
  clear hG
  by_cases cy : checkD y = 0
  case neg =>
    have hz : (checkD y != 0) = true := by simpa using cy
    have hz2 : (checkD y == 0) = false := by simpa using cy
    clear cy
    go_wp2_with (fail)
    refine (hAl.out _ hb).mono ?_
    rintro e w21 ⟨⟨y1, HY1, rfl⟩, hg⟩
    have hP := hP.bel hg
    have hb := hb.trans' hg
    obtain rfl := HY1.out
    clear hg
    clear c0 c1 c2 c3 c4 c5 c6 c7 c8 c9 c10
    have hY := AtomAt.new w21 y1
    have g2 := bel_alloc w21 (.cells #[.string y1.says, .string y1.pred, .int .i64 y1.n, .bool y1.t0.v, .string y1.t0.name, .bool y1.t1.v, .string y1.t1.name, .bool y1.t2.v, .string y1.t2.name, .bool y1.t3.v, .string y1.t3.name] 43)
    have hP := hP.bel g2
    have hb := hb.trans' g2
    clear g2
    obtain ⟨c0, c1, c2, c3, c4, c5, c6, c7, c8, c9, c10⟩ := hP.cells
    obtain ⟨d0, d1, d2, d3, d4, d5, d6, d7, d8, d9, d10⟩ := hY.cells
    go_wp2_with (fail)
    refine (hMy.out _).mono ?_
    rintro e w22 ⟨⟨q9, k9, nn, ok, HE9, HO9, rfl⟩, hg⟩
    have hP := hP.bel hg
    have hY := hY.bel hg
    have hb := hb.trans' hg
    clear hg
    clear c0 c1 c2 c3 c4 c5 c6 c7 c8 c9 c10
    clear d0 d1 d2 d3 d4 d5 d6 d7 d8 d9 d10
    obtain ⟨c0, c1, c2, c3, c4, c5, c6, c7, c8, c9, c10⟩ := hY.cells
    have HN9 := Lib.hid (OwnL.slice EB HO9.out)
    go_wp2_with (fail)
    refine (hKy.out _).mono ?_
    rintro e w23 ⟨rfl, hg⟩
    have hP := hP.bel hg
    have hY := hY.bel hg
    have HN9 := Lib.hid (HN9.out.bel hg)
    have hb := hb.trans' hg
    clear hg
    clear c0 c1 c2 c3 c4 c5 c6 c7 c8 c9 c10
    obtain ⟨c0, c1, c2, c3, c4, c5, c6, c7, c8, c9, c10⟩ := hY.cells
    go_wp2
    go_ret
    exact ⟨rfl, hb⟩
  rw [cy] at hKy
  cases gy : groundD y
  case false =>
    rw [gy] at hGy
    clear gy cy
    go_wp2_with (fail)
    refine (hAl.out _ hb).mono ?_
    rintro e w21 ⟨⟨y1, HY1, rfl⟩, hg⟩
    have hP := hP.bel hg
    have hb := hb.trans' hg
    obtain rfl := HY1.out
    clear hg
    clear c0 c1 c2 c3 c4 c5 c6 c7 c8 c9 c10
    have hY := AtomAt.new w21 y1
    have g2 := bel_alloc w21 (.cells #[.string y1.says, .string y1.pred, .int .i64 y1.n, .bool y1.t0.v, .string y1.t0.name, .bool y1.t1.v, .string y1.t1.name, .bool y1.t2.v, .string y1.t2.name, .bool y1.t3.v, .string y1.t3.name] 43)
    have hP := hP.bel g2
    have hb := hb.trans' g2
    clear g2
    obtain ⟨c0, c1, c2, c3, c4, c5, c6, c7, c8, c9, c10⟩ := hP.cells
    obtain ⟨d0, d1, d2, d3, d4, d5, d6, d7, d8, d9, d10⟩ := hY.cells
    go_wp2_with (fail)
    refine (hMy.out _).mono ?_
    rintro e w22 ⟨⟨q9, k9, nn, ok, HE9, HO9, rfl⟩, hg⟩
    have hP := hP.bel hg
    have hY := hY.bel hg
    have hb := hb.trans' hg
    clear hg
    clear c0 c1 c2 c3 c4 c5 c6 c7 c8 c9 c10
    clear d0 d1 d2 d3 d4 d5 d6 d7 d8 d9 d10
    obtain ⟨c0, c1, c2, c3, c4, c5, c6, c7, c8, c9, c10⟩ := hY.cells
    have HN9 := Lib.hid (OwnL.slice EB HO9.out)
    go_wp2_with (fail)
    refine (hKy.out _).mono ?_
    rintro e w23 ⟨rfl, hg⟩
    have hP := hP.bel hg
    have hY := hY.bel hg
    have HN9 := Lib.hid (HN9.out.bel hg)
    have hb := hb.trans' hg
    clear hg
    clear c0 c1 c2 c3 c4 c5 c6 c7 c8 c9 c10
    obtain ⟨c0, c1, c2, c3, c4, c5, c6, c7, c8, c9, c10⟩ := hY.cells
    go_wp2_with (fail)
    refine (hGy.out _).mono ?_
    rintro e w24 ⟨rfl, hg⟩
    have hP := hP.bel hg
    have hY := hY.bel hg
    have HN9 := Lib.hid (HN9.out.bel hg)
    have hb := hb.trans' hg
    clear hg
    clear c0 c1 c2 c3 c4 c5 c6 c7 c8 c9 c10
    obtain ⟨c0, c1, c2, c3, c4, c5, c6, c7, c8, c9, c10⟩ := hP.cells
    obtain ⟨d0, d1, d2, d3, d4, d5, d6, d7, d8, d9, d10⟩ := hY.cells
    go_wp2
    go_ret
    exact ⟨rfl, hb⟩
  rw [gy] at hGy
  have HMM : RowKit.Hid (matchB p y = true) := Lib.hid (by rw [HY.out] at cy gy ⊢; exact match_made HCP.out cy gy)
  have HUY : RowKit.Hid (underD y p = true) := Lib.hid (by rw [HY.out]; exact under_apply HCP.out l)
  have HCY := Lib.hid cy
  clear cy gy
  go_wp2_with (fail)
  refine (hAl.out _ hb).mono ?_
  rintro e w21 ⟨⟨y1, HY1, rfl⟩, hg⟩
  have hP := hP.bel hg
  have hb := hb.trans' hg
  obtain rfl := HY1.out
  clear hg
  clear c0 c1 c2 c3 c4 c5 c6 c7 c8 c9 c10
  have hY := AtomAt.new w21 y1
  have g2 := bel_alloc w21 (.cells #[.string y1.says, .string y1.pred, .int .i64 y1.n, .bool y1.t0.v, .string y1.t0.name, .bool y1.t1.v, .string y1.t1.name, .bool y1.t2.v, .string y1.t2.name, .bool y1.t3.v, .string y1.t3.name] 43)
  have hP := hP.bel g2
  have hb := hb.trans' g2
  clear g2
  obtain ⟨c0, c1, c2, c3, c4, c5, c6, c7, c8, c9, c10⟩ := hP.cells
  obtain ⟨d0, d1, d2, d3, d4, d5, d6, d7, d8, d9, d10⟩ := hY.cells
  go_wp2_with (fail)
  refine (hMy.out _).mono ?_
  rintro e w22 ⟨⟨q9, k9, nn, ok, HE9, HO9, rfl⟩, hg⟩
  have hP := hP.bel hg
  have hY := hY.bel hg
  have hb := hb.trans' hg
  clear hg
  clear c0 c1 c2 c3 c4 c5 c6 c7 c8 c9 c10
  clear d0 d1 d2 d3 d4 d5 d6 d7 d8 d9 d10
  obtain ⟨c0, c1, c2, c3, c4, c5, c6, c7, c8, c9, c10⟩ := hY.cells
  have HN9 := Lib.hid (OwnL.slice EB HO9.out)
  go_wp2_with (fail)
  refine (hKy.out _).mono ?_
  rintro e w23 ⟨rfl, hg⟩
  have hP := hP.bel hg
  have hY := hY.bel hg
  have HN9 := Lib.hid (HN9.out.bel hg)
  have hb := hb.trans' hg
  clear hg
  clear c0 c1 c2 c3 c4 c5 c6 c7 c8 c9 c10
  obtain ⟨c0, c1, c2, c3, c4, c5, c6, c7, c8, c9, c10⟩ := hY.cells
  go_wp2_with (fail)
  refine (hGy.out _).mono ?_
  rintro e w24 ⟨rfl, hg⟩
  have hP := hP.bel hg
  have hY := hY.bel hg
  have HN9 := Lib.hid (HN9.out.bel hg)
  have hb := hb.trans' hg
  clear hg
  clear c0 c1 c2 c3 c4 c5 c6 c7 c8 c9 c10
  obtain ⟨c0, c1, c2, c3, c4, c5, c6, c7, c8, c9, c10⟩ := hP.cells
  obtain ⟨d0, d1, d2, d3, d4, d5, d6, d7, d8, d9, d10⟩ := hY.cells
  obtain rfl : ok = true := (extR_is HE9.out).trans HMM.out
  have HE8 := Lib.hid (extR_of HE9.out rfl)
  have hn4 : nn.length ≤ 4 := by rw [make_len HE8.out]; exact varsA_len p
  have hAn := Lib.hid (fun W (hg : Bel w24 W) => rApply_any q9 nn k9 p W (HN9.out.bel hg) (by omega))
  rw [make_atom HCP.out HCY.out HE8.out] at hAn
  have hU := Lib.hid (fun W => Under_any y1 p W)
  rw [HUY.out] at hU
  have hqe : eqA y1 y1 = true := (eqA_iff _ _).2 rfl
  have hqn := eql_atom y1 y1
  rw [hqe] at hqn
  have hd : Bel w24 w24.drew := bel_drew' (Below.refl _ _)
  have hP := hP.drew
  have hY := hY.drew
  have hb := Lib.hid hb
  go_wp2
  go_region_held3 (fun w' => (w'.cell? ⟨w.heap.size, 0, none⟩ = some (.string p.says) ∧ w'.cell? ⟨w.heap.size, 1, none⟩ = some (.string p.pred) ∧ w'.cell? ⟨w.heap.size, 2, none⟩ = some (.int .i64 p.n) ∧ w'.cell? ⟨w.heap.size, 3, none⟩ = some (.bool p.t0.v) ∧ w'.cell? ⟨w.heap.size, 4, none⟩ = some (.string p.t0.name) ∧ w'.cell? ⟨w.heap.size, 5, none⟩ = some (.bool p.t1.v) ∧ w'.cell? ⟨w.heap.size, 6, none⟩ = some (.string p.t1.name) ∧ w'.cell? ⟨w.heap.size, 7, none⟩ = some (.bool p.t2.v) ∧ w'.cell? ⟨w.heap.size, 8, none⟩ = some (.string p.t2.name) ∧ w'.cell? ⟨w.heap.size, 9, none⟩ = some (.bool p.t3.v) ∧ w'.cell? ⟨w.heap.size, 10, none⟩ = some (.string p.t3.name)) ∧ (w'.cell? ⟨w21.heap.size, 0, none⟩ = some (.string y1.says) ∧ w'.cell? ⟨w21.heap.size, 1, none⟩ = some (.string y1.pred) ∧ w'.cell? ⟨w21.heap.size, 2, none⟩ = some (.int .i64 y1.n) ∧ w'.cell? ⟨w21.heap.size, 3, none⟩ = some (.bool y1.t0.v) ∧ w'.cell? ⟨w21.heap.size, 4, none⟩ = some (.string y1.t0.name) ∧ w'.cell? ⟨w21.heap.size, 5, none⟩ = some (.bool y1.t1.v) ∧ w'.cell? ⟨w21.heap.size, 6, none⟩ = some (.string y1.t1.name) ∧ w'.cell? ⟨w21.heap.size, 7, none⟩ = some (.bool y1.t2.v) ∧ w'.cell? ⟨w21.heap.size, 8, none⟩ = some (.string y1.t2.name) ∧ w'.cell? ⟨w21.heap.size, 9, none⟩ = some (.bool y1.t3.v) ∧ w'.cell? ⟨w21.heap.size, 10, none⟩ = some (.string y1.t3.name))) (first | exact ⟨hP.cells, hY.cells⟩ | go_keep | trivial)
    (first | (go_at_call 40; refine (hAn.out _ hd).mono ?_; rintro e w30 ⟨⟨y2, HY2, rfl⟩, hg⟩; obtain rfl := HY2.out.symm; have hP := hP.bel hg; have hY := hY.bel hg; have hd := hd.trans' hg; clear hg) | (go_at_call 35; refine (hU.out _).mono ?_; rintro e w30 ⟨rfl, hg⟩; have hP := hP.bel hg; have hY := hY.bel hg; have hd := hd.trans' hg; clear hg))
  all_goals go_wp2
  all_goals go_ret
  all_goals exact ⟨rfl, hb.out.trans' hd⟩
end Go.Proofs.Ytlbollmmomheoaa
