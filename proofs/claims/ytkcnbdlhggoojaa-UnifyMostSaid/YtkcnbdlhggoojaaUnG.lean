/-
  The law UnifyGround for every input. Conditions: what came in lies as its parameters' types say.
-/
import Derived.Test.YtkcnbdlhggoojaaUnL
import Derived.Test.YtkcnbdlhggoojaaUnM
namespace Go.Proofs.Ytkcnbdlhggoojaa
open Go.RowKit

theorem uniL_len : ∀ {ts us : List TermD} {m n : List BindD}, uniL m ts us = some n → n.length ≤ m.length + ts.length
  | [], us, m, n, h => by
    obtain rfl : m = n := by simpa [uniL] using h
    simp
  | t :: ts, [], m, n, h => by
    obtain rfl : m = n := by simpa [uniL] using h
    simp
  | t :: ts, u :: us, m, n, h => by
    unfold uniL at h
    split at h
    · have := uniL_len h
      simp; omega
    · split at h
      · cases h
      · split at h
        · have := uniL_len h
          have h2 := bindD_len m (dirD (subT m t) (subT m u)).1.name (dirD (subT m t) (subT m u)).2
          simp; omega
        · cases h
theorem uniR_len {a b : AtomD} {l : List BindD} {is : Bool} (h : (l, is) = uniR a b) : l.length ≤ 4 := by
  cases is
  · rw [(uniR_none h).1]; simp
  · have h1 := uniL_len (uni_pre (uniR_some h)).2
    have h2 := argsN_len a
    have h3 := cntI_le a.n
    simp at h1
    omega
set_option maxRecDepth 20000 in
set_option maxHeartbeats 16000000 in
theorem lawUnifyGround (p g : AtomD) (w : World) (hpk : AtomOk p) (hgk : AtomOk g) :
    Calls Try.prog 4 #[.agg #[.string p.says, .string p.pred, .int .i64 p.n, .bool p.t0.v, .string p.t0.name, .bool p.t1.v, .string p.t1.name, .bool p.t2.v, .string p.t2.name, .bool p.t3.v, .string p.t3.name], .agg #[.string g.says, .string g.pred, .int .i64 g.n, .bool g.t0.v, .string g.t0.name, .bool g.t1.v, .string g.t1.name, .bool g.t2.v, .string g.t2.name, .bool g.t3.v, .string g.t3.name]] w fun e w' => e = .returned (.bool true) ∧ Bel w w' := by
  have hP := AtomAt.new w p
  have hP := hP.bel (bel_alloc (w.alloc (.cells #[.string p.says, .string p.pred, .int .i64 p.n, .bool p.t0.v, .string p.t0.name, .bool p.t1.v, .string p.t1.name, .bool p.t2.v, .string p.t2.name, .bool p.t3.v, .string p.t3.name] 26)) (.cells #[.string g.says, .string g.pred, .int .i64 g.n, .bool g.t0.v, .string g.t0.name, .bool g.t1.v, .string g.t1.name, .bool g.t2.v, .string g.t2.name, .bool g.t3.v, .string g.t3.name] 26))
  have hG := AtomAt.new (w.alloc (.cells #[.string p.says, .string p.pred, .int .i64 p.n, .bool p.t0.v, .string p.t0.name, .bool p.t1.v, .string p.t1.name, .bool p.t2.v, .string p.t2.name, .bool p.t3.v, .string p.t3.name] 26)) g
  rw [show (w.alloc (.cells #[.string p.says, .string p.pred, .int .i64 p.n, .bool p.t0.v, .string p.t0.name, .bool p.t1.v, .string p.t1.name, .bool p.t2.v, .string p.t2.name, .bool p.t3.v, .string p.t3.name] 26)).heap.size = w.heap.size + 1 by simp] at hG
  have hb := (bel_alloc w (.cells #[.string p.says, .string p.pred, .int .i64 p.n, .bool p.t0.v, .string p.t0.name, .bool p.t1.v, .string p.t1.name, .bool p.t2.v, .string p.t2.name, .bool p.t3.v, .string p.t3.name] 26)).trans' (bel_alloc (w.alloc (.cells #[.string p.says, .string p.pred, .int .i64 p.n, .bool p.t0.v, .string p.t0.name, .bool p.t1.v, .string p.t1.name, .bool p.t2.v, .string p.t2.name, .bool p.t3.v, .string p.t3.name] 26)) (.cells #[.string g.says, .string g.pred, .int .i64 g.n, .bool g.t0.v, .string g.t0.name, .bool g.t1.v, .string g.t1.name, .bool g.t2.v, .string g.t2.name, .bool g.t3.v, .string g.t3.name] 26))
  have hLp := Lib.hid (fun W => light_any p W hpk)
  have hKp := Lib.hid (fun W => rCheck_any p W hpk)
  have hLg := Lib.hid (fun W => light_any g W hgk)
  have hKg := Lib.hid (fun W => rCheck_any g W hgk)
  have hGr := Lib.hid (fun W => rGround_any g W)
  cases q0 : lightA p
  case false =>
    rw [q0] at hLp
    clear q0
    go_enter Try.func4, Try.ntmps4
    go_wp2_with (fail)
    refine (lives6_any _).mono ?_
    rintro e w1 ⟨rfl, hg⟩
    have hP := hP.bel hg
    have hG := hG.bel hg
    have hb := hb.trans' hg
    clear hg
    obtain ⟨c0, c1, c2, c3, c4, c5, c6, c7, c8, c9, c10⟩ := hP.cells
    go_wp2_with (fail)
    refine (hLp.out _).mono ?_
    rintro e w2 ⟨rfl, hg⟩
    have hP := hP.bel hg
    have hG := hG.bel hg
    have hb := hb.trans' hg
    clear hg
    clear c0 c1 c2 c3 c4 c5 c6 c7 c8 c9 c10
    obtain ⟨c0, c1, c2, c3, c4, c5, c6, c7, c8, c9, c10⟩ := hG.cells
    go_wp2
    go_ret
    exact ⟨rfl, hb⟩
  rw [q0] at hLp
  cases q1 : lightA g
  case false =>
    rw [q1] at hLg
    clear q1 q0
    go_enter Try.func4, Try.ntmps4
    go_wp2_with (fail)
    refine (lives6_any _).mono ?_
    rintro e w1 ⟨rfl, hg⟩
    have hP := hP.bel hg
    have hG := hG.bel hg
    have hb := hb.trans' hg
    clear hg
    obtain ⟨c0, c1, c2, c3, c4, c5, c6, c7, c8, c9, c10⟩ := hP.cells
    go_wp2_with (fail)
    refine (hLp.out _).mono ?_
    rintro e w2 ⟨rfl, hg⟩
    have hP := hP.bel hg
    have hG := hG.bel hg
    have hb := hb.trans' hg
    clear hg
    clear c0 c1 c2 c3 c4 c5 c6 c7 c8 c9 c10
    obtain ⟨c0, c1, c2, c3, c4, c5, c6, c7, c8, c9, c10⟩ := hG.cells
    go_wp2_with (fail)
    refine (hLg.out _).mono ?_
    rintro e w3 ⟨rfl, hg⟩
    have hP := hP.bel hg
    have hG := hG.bel hg
    have hb := hb.trans' hg
    clear hg
    clear c0 c1 c2 c3 c4 c5 c6 c7 c8 c9 c10
    obtain ⟨c0, c1, c2, c3, c4, c5, c6, c7, c8, c9, c10⟩ := hP.cells
    go_wp2
    go_ret
    exact ⟨rfl, hb⟩
  rw [q1] at hLg
  by_cases q2 : checkD p = 0
  case neg =>
    have hz : (checkD p != 0) = true := by simpa using q2
    have hz2 : (checkD p == 0) = false := by simpa using q2
    clear q0 q1 q2
    go_enter Try.func4, Try.ntmps4
    go_wp2_with (fail)
    refine (lives6_any _).mono ?_
    rintro e w1 ⟨rfl, hg⟩
    have hP := hP.bel hg
    have hG := hG.bel hg
    have hb := hb.trans' hg
    clear hg
    obtain ⟨c0, c1, c2, c3, c4, c5, c6, c7, c8, c9, c10⟩ := hP.cells
    go_wp2_with (fail)
    refine (hLp.out _).mono ?_
    rintro e w2 ⟨rfl, hg⟩
    have hP := hP.bel hg
    have hG := hG.bel hg
    have hb := hb.trans' hg
    clear hg
    clear c0 c1 c2 c3 c4 c5 c6 c7 c8 c9 c10
    obtain ⟨c0, c1, c2, c3, c4, c5, c6, c7, c8, c9, c10⟩ := hG.cells
    go_wp2_with (fail)
    refine (hLg.out _).mono ?_
    rintro e w3 ⟨rfl, hg⟩
    have hP := hP.bel hg
    have hG := hG.bel hg
    have hb := hb.trans' hg
    clear hg
    clear c0 c1 c2 c3 c4 c5 c6 c7 c8 c9 c10
    obtain ⟨c0, c1, c2, c3, c4, c5, c6, c7, c8, c9, c10⟩ := hP.cells
    go_wp2_with (fail)
    refine (hKp.out _).mono ?_
    rintro e w4 ⟨rfl, hg⟩
    have hP := hP.bel hg
    have hG := hG.bel hg
    have hb := hb.trans' hg
    clear hg
    clear c0 c1 c2 c3 c4 c5 c6 c7 c8 c9 c10
    obtain ⟨c0, c1, c2, c3, c4, c5, c6, c7, c8, c9, c10⟩ := hG.cells
    go_wp2
    go_ret
    exact ⟨rfl, hb⟩
  rw [q2] at hKp
  by_cases q3 : checkD g = 0
  case neg =>
    have hz : (checkD g != 0) = true := by simpa using q3
    have hz2 : (checkD g == 0) = false := by simpa using q3
    clear q0 q1 q2 q3
    go_enter Try.func4, Try.ntmps4
    go_wp2_with (fail)
    refine (lives6_any _).mono ?_
    rintro e w1 ⟨rfl, hg⟩
    have hP := hP.bel hg
    have hG := hG.bel hg
    have hb := hb.trans' hg
    clear hg
    obtain ⟨c0, c1, c2, c3, c4, c5, c6, c7, c8, c9, c10⟩ := hP.cells
    go_wp2_with (fail)
    refine (hLp.out _).mono ?_
    rintro e w2 ⟨rfl, hg⟩
    have hP := hP.bel hg
    have hG := hG.bel hg
    have hb := hb.trans' hg
    clear hg
    clear c0 c1 c2 c3 c4 c5 c6 c7 c8 c9 c10
    obtain ⟨c0, c1, c2, c3, c4, c5, c6, c7, c8, c9, c10⟩ := hG.cells
    go_wp2_with (fail)
    refine (hLg.out _).mono ?_
    rintro e w3 ⟨rfl, hg⟩
    have hP := hP.bel hg
    have hG := hG.bel hg
    have hb := hb.trans' hg
    clear hg
    clear c0 c1 c2 c3 c4 c5 c6 c7 c8 c9 c10
    obtain ⟨c0, c1, c2, c3, c4, c5, c6, c7, c8, c9, c10⟩ := hP.cells
    go_wp2_with (fail)
    refine (hKp.out _).mono ?_
    rintro e w4 ⟨rfl, hg⟩
    have hP := hP.bel hg
    have hG := hG.bel hg
    have hb := hb.trans' hg
    clear hg
    clear c0 c1 c2 c3 c4 c5 c6 c7 c8 c9 c10
    obtain ⟨c0, c1, c2, c3, c4, c5, c6, c7, c8, c9, c10⟩ := hG.cells
    go_wp2_with (fail)
    refine (hKg.out _).mono ?_
    rintro e w5 ⟨rfl, hg⟩
    have hP := hP.bel hg
    have hG := hG.bel hg
    have hb := hb.trans' hg
    clear hg
    clear c0 c1 c2 c3 c4 c5 c6 c7 c8 c9 c10
    obtain ⟨c0, c1, c2, c3, c4, c5, c6, c7, c8, c9, c10⟩ := hG.cells
    go_wp2
    go_ret
    exact ⟨rfl, hb⟩
  rw [q3] at hKg
  cases q4 : groundD g
  case false =>
    rw [q4] at hGr
    clear q4 q0 q1 q2 q3
    go_enter Try.func4, Try.ntmps4
    go_wp2_with (fail)
    refine (lives6_any _).mono ?_
    rintro e w1 ⟨rfl, hg⟩
    have hP := hP.bel hg
    have hG := hG.bel hg
    have hb := hb.trans' hg
    clear hg
    obtain ⟨c0, c1, c2, c3, c4, c5, c6, c7, c8, c9, c10⟩ := hP.cells
    go_wp2_with (fail)
    refine (hLp.out _).mono ?_
    rintro e w2 ⟨rfl, hg⟩
    have hP := hP.bel hg
    have hG := hG.bel hg
    have hb := hb.trans' hg
    clear hg
    clear c0 c1 c2 c3 c4 c5 c6 c7 c8 c9 c10
    obtain ⟨c0, c1, c2, c3, c4, c5, c6, c7, c8, c9, c10⟩ := hG.cells
    go_wp2_with (fail)
    refine (hLg.out _).mono ?_
    rintro e w3 ⟨rfl, hg⟩
    have hP := hP.bel hg
    have hG := hG.bel hg
    have hb := hb.trans' hg
    clear hg
    clear c0 c1 c2 c3 c4 c5 c6 c7 c8 c9 c10
    obtain ⟨c0, c1, c2, c3, c4, c5, c6, c7, c8, c9, c10⟩ := hP.cells
    go_wp2_with (fail)
    refine (hKp.out _).mono ?_
    rintro e w4 ⟨rfl, hg⟩
    have hP := hP.bel hg
    have hG := hG.bel hg
    have hb := hb.trans' hg
    clear hg
    clear c0 c1 c2 c3 c4 c5 c6 c7 c8 c9 c10
    obtain ⟨c0, c1, c2, c3, c4, c5, c6, c7, c8, c9, c10⟩ := hG.cells
    go_wp2_with (fail)
    refine (hKg.out _).mono ?_
    rintro e w5 ⟨rfl, hg⟩
    have hP := hP.bel hg
    have hG := hG.bel hg
    have hb := hb.trans' hg
    clear hg
    clear c0 c1 c2 c3 c4 c5 c6 c7 c8 c9 c10
    obtain ⟨c0, c1, c2, c3, c4, c5, c6, c7, c8, c9, c10⟩ := hG.cells
    go_wp2_with (fail)
    refine (hGr.out _).mono ?_
    rintro e w6 ⟨rfl, hg⟩
    have hP := hP.bel hg
    have hG := hG.bel hg
    have hb := hb.trans' hg
    clear hg
    clear c0 c1 c2 c3 c4 c5 c6 c7 c8 c9 c10
    obtain ⟨c0, c1, c2, c3, c4, c5, c6, c7, c8, c9, c10⟩ := hP.cells
    obtain ⟨d0, d1, d2, d3, d4, d5, d6, d7, d8, d9, d10⟩ := hG.cells
    go_wp2
    go_ret
    exact ⟨rfl, hb⟩
  rw [q4] at hGr
  have HUG := Lib.hid (uniR_ground q2 q4)
  have hU := Lib.hid (fun W => Unify_any p g W)
  have hM := Lib.hid (fun W => rMatch_any p g (fun t ht _ => names_nee q2 ht) q4 W)
  clear q0 q1 q2 q3 q4
  go_enter Try.func4, Try.ntmps4
  go_wp2_with (fail)
  refine (lives6_any _).mono ?_
  rintro e w1 ⟨rfl, hg⟩
  have hP := hP.bel hg
  have hG := hG.bel hg
  have hb := hb.trans' hg
  clear hg
  obtain ⟨c0, c1, c2, c3, c4, c5, c6, c7, c8, c9, c10⟩ := hP.cells
  go_wp2_with (fail)
  refine (hLp.out _).mono ?_
  rintro e w2 ⟨rfl, hg⟩
  have hP := hP.bel hg
  have hG := hG.bel hg
  have hb := hb.trans' hg
  clear hg
  clear c0 c1 c2 c3 c4 c5 c6 c7 c8 c9 c10
  obtain ⟨c0, c1, c2, c3, c4, c5, c6, c7, c8, c9, c10⟩ := hG.cells
  go_wp2_with (fail)
  refine (hLg.out _).mono ?_
  rintro e w3 ⟨rfl, hg⟩
  have hP := hP.bel hg
  have hG := hG.bel hg
  have hb := hb.trans' hg
  clear hg
  clear c0 c1 c2 c3 c4 c5 c6 c7 c8 c9 c10
  obtain ⟨c0, c1, c2, c3, c4, c5, c6, c7, c8, c9, c10⟩ := hP.cells
  go_wp2_with (fail)
  refine (hKp.out _).mono ?_
  rintro e w4 ⟨rfl, hg⟩
  have hP := hP.bel hg
  have hG := hG.bel hg
  have hb := hb.trans' hg
  clear hg
  clear c0 c1 c2 c3 c4 c5 c6 c7 c8 c9 c10
  obtain ⟨c0, c1, c2, c3, c4, c5, c6, c7, c8, c9, c10⟩ := hG.cells
  go_wp2_with (fail)
  refine (hKg.out _).mono ?_
  rintro e w5 ⟨rfl, hg⟩
  have hP := hP.bel hg
  have hG := hG.bel hg
  have hb := hb.trans' hg
  clear hg
  clear c0 c1 c2 c3 c4 c5 c6 c7 c8 c9 c10
  obtain ⟨c0, c1, c2, c3, c4, c5, c6, c7, c8, c9, c10⟩ := hG.cells
  go_wp2_with (fail)
  refine (hGr.out _).mono ?_
  rintro e w6 ⟨rfl, hg⟩
  have hP := hP.bel hg
  have hG := hG.bel hg
  have hb := hb.trans' hg
  clear hg
  clear c0 c1 c2 c3 c4 c5 c6 c7 c8 c9 c10
  obtain ⟨c0, c1, c2, c3, c4, c5, c6, c7, c8, c9, c10⟩ := hP.cells
  obtain ⟨d0, d1, d2, d3, d4, d5, d6, d7, d8, d9, d10⟩ := hG.cells
  go_wp2_with (fail)
  refine (hU.out _).mono ?_
  rintro e w7 ⟨⟨q6, k6, l, is, HE, HL, rfl⟩, hg⟩
  have hP := hP.bel hg
  have hG := hG.bel hg
  have hb := hb.trans' hg
  clear hg
  clear c0 c1 c2 c3 c4 c5 c6 c7 c8 c9 c10
  clear d0 d1 d2 d3 d4 d5 d6 d7 d8 d9 d10
  obtain ⟨c0, c1, c2, c3, c4, c5, c6, c7, c8, c9, c10⟩ := hP.cells
  obtain ⟨d0, d1, d2, d3, d4, d5, d6, d7, d8, d9, d10⟩ := hG.cells
  go_wp2_with (fail)
  refine (hM.out _).mono ?_
  rintro e w8 ⟨⟨q7, k7, m, was, HF, HM, rfl⟩, hg⟩
  have hP := hP.bel hg
  have hG := hG.bel hg
  have HL := Lib.hid (HL.out.bel hg)
  have hb := hb.trans' hg
  clear hg
  clear c0 c1 c2 c3 c4 c5 c6 c7 c8 c9 c10
  clear d0 d1 d2 d3 d4 d5 d6 d7 d8 d9 d10
  obtain ⟨rfl, rfl⟩ := Prod.mk.inj (HE.out.trans (HUG.out.trans HF.out.symm))
  have hl4 := uniR_len HE.out
  have hq : (is == is) = true := by simp
  have hS := Lib.hid (fun W (h1 : BL W q6 k6 l) (h2 : BL W q7 k7 l) => sameB2_any q6 l l.length k6 rfl q7 l l.length k7 rfl rfl W h1 h2 (by omega))
  clear hl4 hLp hLg hKp hKg hGr hU hM hP hG
  go_wp2_with (fail)
  refine (hS.out _ HL.out HM.out).mono ?_
  rintro e w9 ⟨rfl, hg⟩
  have hb := hb.trans' hg
  clear hg
  go_wp2
  go_ret
  exact ⟨rfl, hb⟩
end Go.Proofs.Ytkcnbdlhggoojaa
