/-
  The law MatchUnder for every input. Conditions: what came in lies as its parameters' types say.
-/
import Derived.Test.YtlbollmmomheoaaMaL
namespace Go.Proofs.Ytlbollmmomheoaa
open Go.RowKit

set_option maxRecDepth 20000 in
set_option maxHeartbeats 16000000 in
theorem lawMatchUnder (a b c : AtomD) (A : Option Addr) (l : List BindD) (ca : Nat) (w : World) (ha : AtomOk a) (hbk : AtomOk b) (hck : AtomOk c) (hL : BL w A ca l) (hll : l.length ≤ 9223372036854775807) (hkl : BindsOk l) :
    Calls Try.prog 9 #[.agg #[.string a.says, .string a.pred, .int .i64 a.n, .bool a.t0.v, .string a.t0.name, .bool a.t1.v, .string a.t1.name, .bool a.t2.v, .string a.t2.name, .bool a.t3.v, .string a.t3.name], .agg #[.string b.says, .string b.pred, .int .i64 b.n, .bool b.t0.v, .string b.t0.name, .bool b.t1.v, .string b.t1.name, .bool b.t2.v, .string b.t2.name, .bool b.t3.v, .string b.t3.name], .agg #[.string c.says, .string c.pred, .int .i64 c.n, .bool c.t0.v, .string c.t0.name, .bool c.t1.v, .string c.t1.name, .bool c.t2.v, .string c.t2.name, .bool c.t3.v, .string c.t3.name], .slice A l.length ca] w fun e w' => e = .returned (.bool true) ∧ Bel w w' := by
  have hA := AtomAt.new w a
  have hA := hA.bel (bel_alloc (w.alloc (.cells #[.string a.says, .string a.pred, .int .i64 a.n, .bool a.t0.v, .string a.t0.name, .bool a.t1.v, .string a.t1.name, .bool a.t2.v, .string a.t2.name, .bool a.t3.v, .string a.t3.name] 43)) (.cells #[.string b.says, .string b.pred, .int .i64 b.n, .bool b.t0.v, .string b.t0.name, .bool b.t1.v, .string b.t1.name, .bool b.t2.v, .string b.t2.name, .bool b.t3.v, .string b.t3.name] 43))
  have hA := hA.bel (bel_alloc ((w.alloc (.cells #[.string a.says, .string a.pred, .int .i64 a.n, .bool a.t0.v, .string a.t0.name, .bool a.t1.v, .string a.t1.name, .bool a.t2.v, .string a.t2.name, .bool a.t3.v, .string a.t3.name] 43)).alloc (.cells #[.string b.says, .string b.pred, .int .i64 b.n, .bool b.t0.v, .string b.t0.name, .bool b.t1.v, .string b.t1.name, .bool b.t2.v, .string b.t2.name, .bool b.t3.v, .string b.t3.name] 43)) (.cells #[.string c.says, .string c.pred, .int .i64 c.n, .bool c.t0.v, .string c.t0.name, .bool c.t1.v, .string c.t1.name, .bool c.t2.v, .string c.t2.name, .bool c.t3.v, .string c.t3.name] 43))
  have hB := AtomAt.new (w.alloc (.cells #[.string a.says, .string a.pred, .int .i64 a.n, .bool a.t0.v, .string a.t0.name, .bool a.t1.v, .string a.t1.name, .bool a.t2.v, .string a.t2.name, .bool a.t3.v, .string a.t3.name] 43)) b
  rw [show (w.alloc (.cells #[.string a.says, .string a.pred, .int .i64 a.n, .bool a.t0.v, .string a.t0.name, .bool a.t1.v, .string a.t1.name, .bool a.t2.v, .string a.t2.name, .bool a.t3.v, .string a.t3.name] 43)).heap.size = w.heap.size + 1 by simp] at hB
  have hB := hB.bel (bel_alloc ((w.alloc (.cells #[.string a.says, .string a.pred, .int .i64 a.n, .bool a.t0.v, .string a.t0.name, .bool a.t1.v, .string a.t1.name, .bool a.t2.v, .string a.t2.name, .bool a.t3.v, .string a.t3.name] 43)).alloc (.cells #[.string b.says, .string b.pred, .int .i64 b.n, .bool b.t0.v, .string b.t0.name, .bool b.t1.v, .string b.t1.name, .bool b.t2.v, .string b.t2.name, .bool b.t3.v, .string b.t3.name] 43)) (.cells #[.string c.says, .string c.pred, .int .i64 c.n, .bool c.t0.v, .string c.t0.name, .bool c.t1.v, .string c.t1.name, .bool c.t2.v, .string c.t2.name, .bool c.t3.v, .string c.t3.name] 43))
  have hC := AtomAt.new ((w.alloc (.cells #[.string a.says, .string a.pred, .int .i64 a.n, .bool a.t0.v, .string a.t0.name, .bool a.t1.v, .string a.t1.name, .bool a.t2.v, .string a.t2.name, .bool a.t3.v, .string a.t3.name] 43)).alloc (.cells #[.string b.says, .string b.pred, .int .i64 b.n, .bool b.t0.v, .string b.t0.name, .bool b.t1.v, .string b.t1.name, .bool b.t2.v, .string b.t2.name, .bool b.t3.v, .string b.t3.name] 43)) c
  rw [show ((w.alloc (.cells #[.string a.says, .string a.pred, .int .i64 a.n, .bool a.t0.v, .string a.t0.name, .bool a.t1.v, .string a.t1.name, .bool a.t2.v, .string a.t2.name, .bool a.t3.v, .string a.t3.name] 43)).alloc (.cells #[.string b.says, .string b.pred, .int .i64 b.n, .bool b.t0.v, .string b.t0.name, .bool b.t1.v, .string b.t1.name, .bool b.t2.v, .string b.t2.name, .bool b.t3.v, .string b.t3.name] 43)).heap.size = w.heap.size + 2 by simp] at hC
  have hb := ((bel_alloc w (.cells #[.string a.says, .string a.pred, .int .i64 a.n, .bool a.t0.v, .string a.t0.name, .bool a.t1.v, .string a.t1.name, .bool a.t2.v, .string a.t2.name, .bool a.t3.v, .string a.t3.name] 43)).trans' (bel_alloc (w.alloc (.cells #[.string a.says, .string a.pred, .int .i64 a.n, .bool a.t0.v, .string a.t0.name, .bool a.t1.v, .string a.t1.name, .bool a.t2.v, .string a.t2.name, .bool a.t3.v, .string a.t3.name] 43)) (.cells #[.string b.says, .string b.pred, .int .i64 b.n, .bool b.t0.v, .string b.t0.name, .bool b.t1.v, .string b.t1.name, .bool b.t2.v, .string b.t2.name, .bool b.t3.v, .string b.t3.name] 43))).trans' (bel_alloc ((w.alloc (.cells #[.string a.says, .string a.pred, .int .i64 a.n, .bool a.t0.v, .string a.t0.name, .bool a.t1.v, .string a.t1.name, .bool a.t2.v, .string a.t2.name, .bool a.t3.v, .string a.t3.name] 43)).alloc (.cells #[.string b.says, .string b.pred, .int .i64 b.n, .bool b.t0.v, .string b.t0.name, .bool b.t1.v, .string b.t1.name, .bool b.t2.v, .string b.t2.name, .bool b.t3.v, .string b.t3.name] 43)) (.cells #[.string c.says, .string c.pred, .int .i64 c.n, .bool c.t0.v, .string c.t0.name, .bool c.t1.v, .string c.t1.name, .bool c.t2.v, .string c.t2.name, .bool c.t3.v, .string c.t3.name] 43))
  have HL := Lib.hid hL
  have HKL := Lib.hid hkl
  clear hL hkl
  have hLl := Lib.hid (fun W (hg : Bel w W) => lightBs_any A l ca W (HL.out.bel hg) hll HKL.out)
  have hLa := Lib.hid (fun W => light_any a W ha)
  have hKa := Lib.hid (fun W => rCheck_any a W ha)
  have hLb := Lib.hid (fun W => light_any b W hbk)
  have hKb := Lib.hid (fun W => rCheck_any b W hbk)
  have hLc := Lib.hid (fun W => light_any c W hck)
  have hKc := Lib.hid (fun W => rCheck_any c W hck)
  cases q0 : lightA a
  case false =>
    rw [q0] at hLa
    clear q0
    go_enter Try.func9, Try.ntmps9
    go_wp2_with (fail)
    refine (lives5_any _).mono ?_
    rintro e w1 ⟨rfl, hg⟩
    have hA := hA.bel hg
    have hB := hB.bel hg
    have hC := hC.bel hg
    have hb := hb.trans' hg
    clear hg
    obtain ⟨c0, c1, c2, c3, c4, c5, c6, c7, c8, c9, c10⟩ := hA.cells
    go_wp2_with (fail)
    refine (hLa.out _).mono ?_
    rintro e w2 ⟨rfl, hg⟩
    have hA := hA.bel hg
    have hB := hB.bel hg
    have hC := hC.bel hg
    have hb := hb.trans' hg
    clear hg
    clear c0 c1 c2 c3 c4 c5 c6 c7 c8 c9 c10
    obtain ⟨c0, c1, c2, c3, c4, c5, c6, c7, c8, c9, c10⟩ := hB.cells
    go_wp2
    go_ret
    exact ⟨rfl, hb⟩
  rw [q0] at hLa
  cases q1 : lightA b
  case false =>
    rw [q1] at hLb
    clear q1 q0
    go_enter Try.func9, Try.ntmps9
    go_wp2_with (fail)
    refine (lives5_any _).mono ?_
    rintro e w1 ⟨rfl, hg⟩
    have hA := hA.bel hg
    have hB := hB.bel hg
    have hC := hC.bel hg
    have hb := hb.trans' hg
    clear hg
    obtain ⟨c0, c1, c2, c3, c4, c5, c6, c7, c8, c9, c10⟩ := hA.cells
    go_wp2_with (fail)
    refine (hLa.out _).mono ?_
    rintro e w2 ⟨rfl, hg⟩
    have hA := hA.bel hg
    have hB := hB.bel hg
    have hC := hC.bel hg
    have hb := hb.trans' hg
    clear hg
    clear c0 c1 c2 c3 c4 c5 c6 c7 c8 c9 c10
    obtain ⟨c0, c1, c2, c3, c4, c5, c6, c7, c8, c9, c10⟩ := hB.cells
    go_wp2_with (fail)
    refine (hLb.out _).mono ?_
    rintro e w3 ⟨rfl, hg⟩
    have hA := hA.bel hg
    have hB := hB.bel hg
    have hC := hC.bel hg
    have hb := hb.trans' hg
    clear hg
    clear c0 c1 c2 c3 c4 c5 c6 c7 c8 c9 c10
    obtain ⟨c0, c1, c2, c3, c4, c5, c6, c7, c8, c9, c10⟩ := hC.cells
    go_wp2
    go_ret
    exact ⟨rfl, hb⟩
  rw [q1] at hLb
  cases q2 : lightA c
  case false =>
    rw [q2] at hLc
    clear q2 q0 q1
    go_enter Try.func9, Try.ntmps9
    go_wp2_with (fail)
    refine (lives5_any _).mono ?_
    rintro e w1 ⟨rfl, hg⟩
    have hA := hA.bel hg
    have hB := hB.bel hg
    have hC := hC.bel hg
    have hb := hb.trans' hg
    clear hg
    obtain ⟨c0, c1, c2, c3, c4, c5, c6, c7, c8, c9, c10⟩ := hA.cells
    go_wp2_with (fail)
    refine (hLa.out _).mono ?_
    rintro e w2 ⟨rfl, hg⟩
    have hA := hA.bel hg
    have hB := hB.bel hg
    have hC := hC.bel hg
    have hb := hb.trans' hg
    clear hg
    clear c0 c1 c2 c3 c4 c5 c6 c7 c8 c9 c10
    obtain ⟨c0, c1, c2, c3, c4, c5, c6, c7, c8, c9, c10⟩ := hB.cells
    go_wp2_with (fail)
    refine (hLb.out _).mono ?_
    rintro e w3 ⟨rfl, hg⟩
    have hA := hA.bel hg
    have hB := hB.bel hg
    have hC := hC.bel hg
    have hb := hb.trans' hg
    clear hg
    clear c0 c1 c2 c3 c4 c5 c6 c7 c8 c9 c10
    obtain ⟨c0, c1, c2, c3, c4, c5, c6, c7, c8, c9, c10⟩ := hC.cells
    go_wp2_with (fail)
    refine (hLc.out _).mono ?_
    rintro e w4 ⟨rfl, hg⟩
    have hA := hA.bel hg
    have hB := hB.bel hg
    have hC := hC.bel hg
    have hb := hb.trans' hg
    clear hg
    clear c0 c1 c2 c3 c4 c5 c6 c7 c8 c9 c10
    go_wp2
    go_ret
    exact ⟨rfl, hb⟩
  rw [q2] at hLc
  cases q3 : lightBs l
  case false =>
    rw [q3] at hLl
    clear q3 q0 q1 q2
    go_enter Try.func9, Try.ntmps9
    go_wp2_with (fail)
    refine (lives5_any _).mono ?_
    rintro e w1 ⟨rfl, hg⟩
    have hA := hA.bel hg
    have hB := hB.bel hg
    have hC := hC.bel hg
    have hb := hb.trans' hg
    clear hg
    obtain ⟨c0, c1, c2, c3, c4, c5, c6, c7, c8, c9, c10⟩ := hA.cells
    go_wp2_with (fail)
    refine (hLa.out _).mono ?_
    rintro e w2 ⟨rfl, hg⟩
    have hA := hA.bel hg
    have hB := hB.bel hg
    have hC := hC.bel hg
    have hb := hb.trans' hg
    clear hg
    clear c0 c1 c2 c3 c4 c5 c6 c7 c8 c9 c10
    obtain ⟨c0, c1, c2, c3, c4, c5, c6, c7, c8, c9, c10⟩ := hB.cells
    go_wp2_with (fail)
    refine (hLb.out _).mono ?_
    rintro e w3 ⟨rfl, hg⟩
    have hA := hA.bel hg
    have hB := hB.bel hg
    have hC := hC.bel hg
    have hb := hb.trans' hg
    clear hg
    clear c0 c1 c2 c3 c4 c5 c6 c7 c8 c9 c10
    obtain ⟨c0, c1, c2, c3, c4, c5, c6, c7, c8, c9, c10⟩ := hC.cells
    go_wp2_with (fail)
    refine (hLc.out _).mono ?_
    rintro e w4 ⟨rfl, hg⟩
    have hA := hA.bel hg
    have hB := hB.bel hg
    have hC := hC.bel hg
    have hb := hb.trans' hg
    clear hg
    clear c0 c1 c2 c3 c4 c5 c6 c7 c8 c9 c10
    go_wp2_with (fail)
    refine (hLl.out _ hb).mono ?_
    rintro e w5 ⟨rfl, hg⟩
    have hA := hA.bel hg
    have hB := hB.bel hg
    have hC := hC.bel hg
    have hb := hb.trans' hg
    clear hg
    obtain ⟨c0, c1, c2, c3, c4, c5, c6, c7, c8, c9, c10⟩ := hA.cells
    go_wp2
    go_ret
    exact ⟨rfl, hb⟩
  rw [q3] at hLl
  by_cases q4 : checkD a = 0
  case neg =>
    have hz : (checkD a != 0) = true := by simpa using q4
    have hz2 : (checkD a == 0) = false := by simpa using q4
    clear q0 q1 q2 q3 q4
    go_enter Try.func9, Try.ntmps9
    go_wp2_with (fail)
    refine (lives5_any _).mono ?_
    rintro e w1 ⟨rfl, hg⟩
    have hA := hA.bel hg
    have hB := hB.bel hg
    have hC := hC.bel hg
    have hb := hb.trans' hg
    clear hg
    obtain ⟨c0, c1, c2, c3, c4, c5, c6, c7, c8, c9, c10⟩ := hA.cells
    go_wp2_with (fail)
    refine (hLa.out _).mono ?_
    rintro e w2 ⟨rfl, hg⟩
    have hA := hA.bel hg
    have hB := hB.bel hg
    have hC := hC.bel hg
    have hb := hb.trans' hg
    clear hg
    clear c0 c1 c2 c3 c4 c5 c6 c7 c8 c9 c10
    obtain ⟨c0, c1, c2, c3, c4, c5, c6, c7, c8, c9, c10⟩ := hB.cells
    go_wp2_with (fail)
    refine (hLb.out _).mono ?_
    rintro e w3 ⟨rfl, hg⟩
    have hA := hA.bel hg
    have hB := hB.bel hg
    have hC := hC.bel hg
    have hb := hb.trans' hg
    clear hg
    clear c0 c1 c2 c3 c4 c5 c6 c7 c8 c9 c10
    obtain ⟨c0, c1, c2, c3, c4, c5, c6, c7, c8, c9, c10⟩ := hC.cells
    go_wp2_with (fail)
    refine (hLc.out _).mono ?_
    rintro e w4 ⟨rfl, hg⟩
    have hA := hA.bel hg
    have hB := hB.bel hg
    have hC := hC.bel hg
    have hb := hb.trans' hg
    clear hg
    clear c0 c1 c2 c3 c4 c5 c6 c7 c8 c9 c10
    go_wp2_with (fail)
    refine (hLl.out _ hb).mono ?_
    rintro e w5 ⟨rfl, hg⟩
    have hA := hA.bel hg
    have hB := hB.bel hg
    have hC := hC.bel hg
    have hb := hb.trans' hg
    clear hg
    obtain ⟨c0, c1, c2, c3, c4, c5, c6, c7, c8, c9, c10⟩ := hA.cells
    go_wp2_with (fail)
    refine (hKa.out _).mono ?_
    rintro e w6 ⟨rfl, hg⟩
    have hA := hA.bel hg
    have hB := hB.bel hg
    have hC := hC.bel hg
    have hb := hb.trans' hg
    clear hg
    clear c0 c1 c2 c3 c4 c5 c6 c7 c8 c9 c10
    obtain ⟨c0, c1, c2, c3, c4, c5, c6, c7, c8, c9, c10⟩ := hB.cells
    go_wp2
    go_ret
    exact ⟨rfl, hb⟩
  rw [q4] at hKa
  by_cases q5 : checkD b = 0
  case neg =>
    have hz : (checkD b != 0) = true := by simpa using q5
    have hz2 : (checkD b == 0) = false := by simpa using q5
    clear q0 q1 q2 q3 q4 q5
    go_enter Try.func9, Try.ntmps9
    go_wp2_with (fail)
    refine (lives5_any _).mono ?_
    rintro e w1 ⟨rfl, hg⟩
    have hA := hA.bel hg
    have hB := hB.bel hg
    have hC := hC.bel hg
    have hb := hb.trans' hg
    clear hg
    obtain ⟨c0, c1, c2, c3, c4, c5, c6, c7, c8, c9, c10⟩ := hA.cells
    go_wp2_with (fail)
    refine (hLa.out _).mono ?_
    rintro e w2 ⟨rfl, hg⟩
    have hA := hA.bel hg
    have hB := hB.bel hg
    have hC := hC.bel hg
    have hb := hb.trans' hg
    clear hg
    clear c0 c1 c2 c3 c4 c5 c6 c7 c8 c9 c10
    obtain ⟨c0, c1, c2, c3, c4, c5, c6, c7, c8, c9, c10⟩ := hB.cells
    go_wp2_with (fail)
    refine (hLb.out _).mono ?_
    rintro e w3 ⟨rfl, hg⟩
    have hA := hA.bel hg
    have hB := hB.bel hg
    have hC := hC.bel hg
    have hb := hb.trans' hg
    clear hg
    clear c0 c1 c2 c3 c4 c5 c6 c7 c8 c9 c10
    obtain ⟨c0, c1, c2, c3, c4, c5, c6, c7, c8, c9, c10⟩ := hC.cells
    go_wp2_with (fail)
    refine (hLc.out _).mono ?_
    rintro e w4 ⟨rfl, hg⟩
    have hA := hA.bel hg
    have hB := hB.bel hg
    have hC := hC.bel hg
    have hb := hb.trans' hg
    clear hg
    clear c0 c1 c2 c3 c4 c5 c6 c7 c8 c9 c10
    go_wp2_with (fail)
    refine (hLl.out _ hb).mono ?_
    rintro e w5 ⟨rfl, hg⟩
    have hA := hA.bel hg
    have hB := hB.bel hg
    have hC := hC.bel hg
    have hb := hb.trans' hg
    clear hg
    obtain ⟨c0, c1, c2, c3, c4, c5, c6, c7, c8, c9, c10⟩ := hA.cells
    go_wp2_with (fail)
    refine (hKa.out _).mono ?_
    rintro e w6 ⟨rfl, hg⟩
    have hA := hA.bel hg
    have hB := hB.bel hg
    have hC := hC.bel hg
    have hb := hb.trans' hg
    clear hg
    clear c0 c1 c2 c3 c4 c5 c6 c7 c8 c9 c10
    obtain ⟨c0, c1, c2, c3, c4, c5, c6, c7, c8, c9, c10⟩ := hB.cells
    go_wp2_with (fail)
    refine (hKb.out _).mono ?_
    rintro e w7 ⟨rfl, hg⟩
    have hA := hA.bel hg
    have hB := hB.bel hg
    have hC := hC.bel hg
    have hb := hb.trans' hg
    clear hg
    clear c0 c1 c2 c3 c4 c5 c6 c7 c8 c9 c10
    obtain ⟨c0, c1, c2, c3, c4, c5, c6, c7, c8, c9, c10⟩ := hC.cells
    go_wp2
    go_ret
    exact ⟨rfl, hb⟩
  rw [q5] at hKb
  by_cases q6 : checkD c = 0
  case neg =>
    have hz : (checkD c != 0) = true := by simpa using q6
    have hz2 : (checkD c == 0) = false := by simpa using q6
    clear q0 q1 q2 q3 q4 q5 q6
    go_enter Try.func9, Try.ntmps9
    go_wp2_with (fail)
    refine (lives5_any _).mono ?_
    rintro e w1 ⟨rfl, hg⟩
    have hA := hA.bel hg
    have hB := hB.bel hg
    have hC := hC.bel hg
    have hb := hb.trans' hg
    clear hg
    obtain ⟨c0, c1, c2, c3, c4, c5, c6, c7, c8, c9, c10⟩ := hA.cells
    go_wp2_with (fail)
    refine (hLa.out _).mono ?_
    rintro e w2 ⟨rfl, hg⟩
    have hA := hA.bel hg
    have hB := hB.bel hg
    have hC := hC.bel hg
    have hb := hb.trans' hg
    clear hg
    clear c0 c1 c2 c3 c4 c5 c6 c7 c8 c9 c10
    obtain ⟨c0, c1, c2, c3, c4, c5, c6, c7, c8, c9, c10⟩ := hB.cells
    go_wp2_with (fail)
    refine (hLb.out _).mono ?_
    rintro e w3 ⟨rfl, hg⟩
    have hA := hA.bel hg
    have hB := hB.bel hg
    have hC := hC.bel hg
    have hb := hb.trans' hg
    clear hg
    clear c0 c1 c2 c3 c4 c5 c6 c7 c8 c9 c10
    obtain ⟨c0, c1, c2, c3, c4, c5, c6, c7, c8, c9, c10⟩ := hC.cells
    go_wp2_with (fail)
    refine (hLc.out _).mono ?_
    rintro e w4 ⟨rfl, hg⟩
    have hA := hA.bel hg
    have hB := hB.bel hg
    have hC := hC.bel hg
    have hb := hb.trans' hg
    clear hg
    clear c0 c1 c2 c3 c4 c5 c6 c7 c8 c9 c10
    go_wp2_with (fail)
    refine (hLl.out _ hb).mono ?_
    rintro e w5 ⟨rfl, hg⟩
    have hA := hA.bel hg
    have hB := hB.bel hg
    have hC := hC.bel hg
    have hb := hb.trans' hg
    clear hg
    obtain ⟨c0, c1, c2, c3, c4, c5, c6, c7, c8, c9, c10⟩ := hA.cells
    go_wp2_with (fail)
    refine (hKa.out _).mono ?_
    rintro e w6 ⟨rfl, hg⟩
    have hA := hA.bel hg
    have hB := hB.bel hg
    have hC := hC.bel hg
    have hb := hb.trans' hg
    clear hg
    clear c0 c1 c2 c3 c4 c5 c6 c7 c8 c9 c10
    obtain ⟨c0, c1, c2, c3, c4, c5, c6, c7, c8, c9, c10⟩ := hB.cells
    go_wp2_with (fail)
    refine (hKb.out _).mono ?_
    rintro e w7 ⟨rfl, hg⟩
    have hA := hA.bel hg
    have hB := hB.bel hg
    have hC := hC.bel hg
    have hb := hb.trans' hg
    clear hg
    clear c0 c1 c2 c3 c4 c5 c6 c7 c8 c9 c10
    obtain ⟨c0, c1, c2, c3, c4, c5, c6, c7, c8, c9, c10⟩ := hC.cells
    go_wp2_with (fail)
    refine (hKc.out _).mono ?_
    rintro e w8 ⟨rfl, hg⟩
    have hA := hA.bel hg
    have hB := hB.bel hg
    have hC := hC.bel hg
    have hb := hb.trans' hg
    clear hg
    clear c0 c1 c2 c3 c4 c5 c6 c7 c8 c9 c10
    go_wp2
    go_ret
    exact ⟨rfl, hb⟩
  rw [q6] at hKc
  have hl20 : l.length ≤ 20 := by
    have := q3
    unfold lightBs at this
    simp only [Bool.and_eq_true, decide_eq_true_eq] at this
    omega
  have HCK := Lib.hid (And.intro q4 (And.intro q5 q6))
  clear q0 q1 q2 q3 q4 q5 q6
  have hU1 := Lib.hid (fun W => Under_any a a W)
  rw [under_refl HCK.out.1] at hU1
  obtain ⟨y, hy⟩ : ∃ y, y = applyA l a := ⟨_, rfl⟩
  have hAp := Lib.hid (fun W (hg : Bel w W) => rApply_any A l ca a W (HL.out.bel hg) (by omega))
  rw [← hy] at hAp
  have hU5 := Lib.hid (fun W => Under_any y a W)
  rw [show underD y a = true from (by rw [hy]; exact under_apply HCK.out.1 l)] at hU5
  clear hy
  have hU2 := Lib.hid (fun W => Under_any a b W)
  have hU3 := Lib.hid (fun W => Under_any b c W)
  have hU4 := Lib.hid (fun W => Under_any a c W)
  cases q1 : underD a b
  case false =>
    rw [q1] at hU2
    clear q1 hU3 hU4
    go_enter Try.func9, Try.ntmps9
    go_wp2_with (fail)
    refine (lives5_any _).mono ?_
    rintro e w1 ⟨rfl, hg⟩
    have hA := hA.bel hg
    have hB := hB.bel hg
    have hC := hC.bel hg
    have hb := hb.trans' hg
    clear hg
    obtain ⟨c0, c1, c2, c3, c4, c5, c6, c7, c8, c9, c10⟩ := hA.cells
    go_wp2_with (fail)
    refine (hLa.out _).mono ?_
    rintro e w2 ⟨rfl, hg⟩
    have hA := hA.bel hg
    have hB := hB.bel hg
    have hC := hC.bel hg
    have hb := hb.trans' hg
    clear hg
    clear c0 c1 c2 c3 c4 c5 c6 c7 c8 c9 c10
    obtain ⟨c0, c1, c2, c3, c4, c5, c6, c7, c8, c9, c10⟩ := hB.cells
    go_wp2_with (fail)
    refine (hLb.out _).mono ?_
    rintro e w3 ⟨rfl, hg⟩
    have hA := hA.bel hg
    have hB := hB.bel hg
    have hC := hC.bel hg
    have hb := hb.trans' hg
    clear hg
    clear c0 c1 c2 c3 c4 c5 c6 c7 c8 c9 c10
    obtain ⟨c0, c1, c2, c3, c4, c5, c6, c7, c8, c9, c10⟩ := hC.cells
    go_wp2_with (fail)
    refine (hLc.out _).mono ?_
    rintro e w4 ⟨rfl, hg⟩
    have hA := hA.bel hg
    have hB := hB.bel hg
    have hC := hC.bel hg
    have hb := hb.trans' hg
    clear hg
    clear c0 c1 c2 c3 c4 c5 c6 c7 c8 c9 c10
    go_wp2_with (fail)
    refine (hLl.out _ hb).mono ?_
    rintro e w5 ⟨rfl, hg⟩
    have hA := hA.bel hg
    have hB := hB.bel hg
    have hC := hC.bel hg
    have hb := hb.trans' hg
    clear hg
    obtain ⟨c0, c1, c2, c3, c4, c5, c6, c7, c8, c9, c10⟩ := hA.cells
    go_wp2_with (fail)
    refine (hKa.out _).mono ?_
    rintro e w6 ⟨rfl, hg⟩
    have hA := hA.bel hg
    have hB := hB.bel hg
    have hC := hC.bel hg
    have hb := hb.trans' hg
    clear hg
    clear c0 c1 c2 c3 c4 c5 c6 c7 c8 c9 c10
    obtain ⟨c0, c1, c2, c3, c4, c5, c6, c7, c8, c9, c10⟩ := hB.cells
    go_wp2_with (fail)
    refine (hKb.out _).mono ?_
    rintro e w7 ⟨rfl, hg⟩
    have hA := hA.bel hg
    have hB := hB.bel hg
    have hC := hC.bel hg
    have hb := hb.trans' hg
    clear hg
    clear c0 c1 c2 c3 c4 c5 c6 c7 c8 c9 c10
    obtain ⟨c0, c1, c2, c3, c4, c5, c6, c7, c8, c9, c10⟩ := hC.cells
    go_wp2_with (fail)
    refine (hKc.out _).mono ?_
    rintro e w8 ⟨rfl, hg⟩
    have hA := hA.bel hg
    have hB := hB.bel hg
    have hC := hC.bel hg
    have hb := hb.trans' hg
    clear hg
    clear c0 c1 c2 c3 c4 c5 c6 c7 c8 c9 c10
    have hd : Bel w8 w8.drew := bel_drew' (Below.refl _ _)
    go_wp2
    obtain ⟨c0, c1, c2, c3, c4, c5, c6, c7, c8, c9, c10⟩ := hA.cells
    obtain ⟨d0, d1, d2, d3, d4, d5, d6, d7, d8, d9, d10⟩ := hB.cells
    obtain ⟨f0, f1, f2, f3, f4, f5, f6, f7, f8, f9, f10⟩ := hC.cells
    have hA := hA.drew
    have hB := hB.drew
    have hC := hC.drew
    have hb := Lib.hid hb
    refine wp_region_held_drew (S := (fun w' => (w'.cell? ⟨w.heap.size, 0, none⟩ = some (.string a.says) ∧ w'.cell? ⟨w.heap.size, 1, none⟩ = some (.string a.pred) ∧ w'.cell? ⟨w.heap.size, 2, none⟩ = some (.int .i64 a.n) ∧ w'.cell? ⟨w.heap.size, 3, none⟩ = some (.bool a.t0.v) ∧ w'.cell? ⟨w.heap.size, 4, none⟩ = some (.string a.t0.name) ∧ w'.cell? ⟨w.heap.size, 5, none⟩ = some (.bool a.t1.v) ∧ w'.cell? ⟨w.heap.size, 6, none⟩ = some (.string a.t1.name) ∧ w'.cell? ⟨w.heap.size, 7, none⟩ = some (.bool a.t2.v) ∧ w'.cell? ⟨w.heap.size, 8, none⟩ = some (.string a.t2.name) ∧ w'.cell? ⟨w.heap.size, 9, none⟩ = some (.bool a.t3.v) ∧ w'.cell? ⟨w.heap.size, 10, none⟩ = some (.string a.t3.name)) ∧ (w'.cell? ⟨w.heap.size + 1, 0, none⟩ = some (.string b.says) ∧ w'.cell? ⟨w.heap.size + 1, 1, none⟩ = some (.string b.pred) ∧ w'.cell? ⟨w.heap.size + 1, 2, none⟩ = some (.int .i64 b.n) ∧ w'.cell? ⟨w.heap.size + 1, 3, none⟩ = some (.bool b.t0.v) ∧ w'.cell? ⟨w.heap.size + 1, 4, none⟩ = some (.string b.t0.name) ∧ w'.cell? ⟨w.heap.size + 1, 5, none⟩ = some (.bool b.t1.v) ∧ w'.cell? ⟨w.heap.size + 1, 6, none⟩ = some (.string b.t1.name) ∧ w'.cell? ⟨w.heap.size + 1, 7, none⟩ = some (.bool b.t2.v) ∧ w'.cell? ⟨w.heap.size + 1, 8, none⟩ = some (.string b.t2.name) ∧ w'.cell? ⟨w.heap.size + 1, 9, none⟩ = some (.bool b.t3.v) ∧ w'.cell? ⟨w.heap.size + 1, 10, none⟩ = some (.string b.t3.name)) ∧ (w'.cell? ⟨w.heap.size + 2, 0, none⟩ = some (.string c.says) ∧ w'.cell? ⟨w.heap.size + 2, 1, none⟩ = some (.string c.pred) ∧ w'.cell? ⟨w.heap.size + 2, 2, none⟩ = some (.int .i64 c.n) ∧ w'.cell? ⟨w.heap.size + 2, 3, none⟩ = some (.bool c.t0.v) ∧ w'.cell? ⟨w.heap.size + 2, 4, none⟩ = some (.string c.t0.name) ∧ w'.cell? ⟨w.heap.size + 2, 5, none⟩ = some (.bool c.t1.v) ∧ w'.cell? ⟨w.heap.size + 2, 6, none⟩ = some (.string c.t1.name) ∧ w'.cell? ⟨w.heap.size + 2, 7, none⟩ = some (.bool c.t2.v) ∧ w'.cell? ⟨w.heap.size + 2, 8, none⟩ = some (.string c.t2.name) ∧ w'.cell? ⟨w.heap.size + 2, 9, none⟩ = some (.bool c.t3.v) ∧ w'.cell? ⟨w.heap.size + 2, 10, none⟩ = some (.string c.t3.name)))) (by kernel_rfl) (⟨hA.cells, hB.cells, hC.cells⟩) (fun hHeld => ?_)
    refine wpAnyH_take (i := 0) (oi := { dst := some 44, op := Go.Op.load 43 (Go.Operand.tmp 4), type := 43, pos := "law.go:143", after := #[], guard := none }) (v := ?_) rfl (by kernel_rfl) (by kernel_rfl) (by kernel_rfl) (fun _ _ _ h => h) (Or.inl ⟨by rfl, ?_⟩) hHeld ?_
    rotate_left
    · (intro w hSw; (try dsimp only at hSw); go_simp)
      all_goals with_reducible rfl
    try simp only [Act.put, List.setIfInBounds_toArray, List.set_cons_zero, List.set_cons_succ]
    refine wpAnyH_take (i := 1) (oi := { dst := some 45, op := Go.Op.load 43 (Go.Operand.tmp 4), type := 43, pos := "law.go:143", after := #[], guard := none }) (v := ?_) rfl (by kernel_rfl) (by kernel_rfl) (by kernel_rfl) (fun _ _ _ h => h) (Or.inl ⟨by rfl, ?_⟩) hHeld ?_
    rotate_left
    · (intro w hSw; (try dsimp only at hSw); go_simp)
      all_goals with_reducible rfl
    try simp only [Act.put, List.setIfInBounds_toArray, List.set_cons_zero, List.set_cons_succ]
    refine wpAnyH_ready (rs := [2]) (by kernel_rfl) (by simp) ?_
    refine AllReadyH.cons (o := { dst := some 46, op := Go.Op.call { callee := Go.Callee.value (Go.Operand.func 35), args := #[Go.Operand.tmp 44, Go.Operand.tmp 45], argTypes := #[43, 43] }, type := 4, pos := "law.go:143", after := #[{ on := 0, ground := Go.Ground.data }, { on := 1, ground := Go.Ground.data }], guard := none }) rfl (fun K hK => ?_) AllReadyH.nil
    go_simp
    go_at_call 35
    refine (hU1.out _).mono ?_
    rintro e w20 ⟨rfl, hg⟩
    have hA := hA.bel hg; have hB := hB.bel hg; have hC := hC.bel hg; have hd := hd.trans' hg; clear hg hU1
    first | refine hK.out _ _ ?_ (fun hHeld => ?_) | (go_wp2_with fail; refine hK.out _ _ ?_ (fun hHeld => ?_))
    · (try dsimp only); exact ⟨hA.cells, hB.cells, hC.cells⟩
    clear hK K
    try simp only [Act.put, List.setIfInBounds_toArray, List.set_cons_zero, List.set_cons_succ]
    refine wpAnyH_take (i := 3) (oi := { dst := some 47, op := Go.Op.move (Go.Operand.tmp 46), type := 4, pos := "law.go:143", after := #[{ on := 2, ground := Go.Ground.data }, { on := 2, ground := Go.Ground.chain }], guard := none }) (v := ?_) rfl (by kernel_rfl) (by kernel_rfl) (by kernel_rfl) (fun _ _ _ h => h) (Or.inl ⟨by rfl, ?_⟩) hHeld ?_
    rotate_left
    · (intro w hSw; (try dsimp only at hSw); go_simp)
      all_goals with_reducible rfl
    try simp only [Act.put, List.setIfInBounds_toArray, List.set_cons_zero, List.set_cons_succ]
    refine wpAnyH_take (i := 4) (oi := { dst := some 48, op := Go.Op.load 43 (Go.Operand.tmp 4), type := 43, pos := "law.go:143", after := #[{ on := 3, ground := Go.Ground.guard }], guard := some (3, true) }) (v := ?_) rfl (by kernel_rfl) (by kernel_rfl) (by kernel_rfl) (fun _ _ _ h => h) (Or.inl ⟨by rfl, ?_⟩) hHeld ?_
    rotate_left
    · (intro w hSw; (try dsimp only at hSw); go_simp)
      all_goals with_reducible rfl
    try simp only [Act.put, List.setIfInBounds_toArray, List.set_cons_zero, List.set_cons_succ]
    refine wpAnyH_take (i := 5) (oi := { dst := some 49, op := Go.Op.load 43 (Go.Operand.tmp 5), type := 43, pos := "law.go:143", after := #[{ on := 3, ground := Go.Ground.guard }], guard := some (3, true) }) (v := ?_) rfl (by kernel_rfl) (by kernel_rfl) (by kernel_rfl) (fun _ _ _ h => h) (Or.inl ⟨by rfl, ?_⟩) hHeld ?_
    rotate_left
    · (intro w hSw; (try dsimp only at hSw); go_simp)
      all_goals with_reducible rfl
    try simp only [Act.put, List.setIfInBounds_toArray, List.set_cons_zero, List.set_cons_succ]
    refine wpAnyH_ready (rs := [6]) (by kernel_rfl) (by simp) ?_
    refine AllReadyH.cons (o := { dst := some 50, op := Go.Op.call { callee := Go.Callee.value (Go.Operand.func 35), args := #[Go.Operand.tmp 48, Go.Operand.tmp 49], argTypes := #[43, 43] }, type := 4, pos := "law.go:143", after := #[{ on := 4, ground := Go.Ground.data }, { on := 5, ground := Go.Ground.data }, { on := 3, ground := Go.Ground.chain }, { on := 3, ground := Go.Ground.guard }], guard := some (3, true) }) rfl (fun K hK => ?_) AllReadyH.nil
    go_simp
    go_at_call 35
    refine (hU2.out _).mono ?_
    rintro e w20 ⟨rfl, hg⟩
    have hA := hA.bel hg; have hB := hB.bel hg; have hC := hC.bel hg; have hd := hd.trans' hg; clear hg hU2
    first | refine hK.out _ _ ?_ (fun hHeld => ?_) | (go_wp2_with fail; refine hK.out _ _ ?_ (fun hHeld => ?_))
    · (try dsimp only); exact ⟨hA.cells, hB.cells, hC.cells⟩
    clear hK K
    try simp only [Act.put, List.setIfInBounds_toArray, List.set_cons_zero, List.set_cons_succ]
    refine wpAnyH_take (i := 7) (oi := { dst := some 51, op := Go.Op.unOp Go.UnOp.not 4 (Go.Operand.tmp 50), type := 4, pos := "law.go:143", after := #[{ on := 6, ground := Go.Ground.data }, { on := 3, ground := Go.Ground.guard }], guard := some (3, true) }) (v := ?_) rfl (by kernel_rfl) (by kernel_rfl) (by kernel_rfl) (fun _ _ _ h => h) (Or.inl ⟨by rfl, ?_⟩) hHeld ?_
    rotate_left
    · (intro w hSw; (try dsimp only at hSw); go_simp)
      all_goals with_reducible rfl
    try simp only [Act.put, List.setIfInBounds_toArray, List.set_cons_zero, List.set_cons_succ]
    refine wpAnyH_take (i := 8) (oi := { dst := some 52, op := Go.Op.move (Go.Operand.tmp 51), type := 4, pos := "law.go:143", after := #[{ on := 7, ground := Go.Ground.data }, { on := 6, ground := Go.Ground.chain }, { on := 3, ground := Go.Ground.guard }], guard := some (3, true) }) (v := ?_) rfl (by kernel_rfl) (by kernel_rfl) (by kernel_rfl) (fun _ _ _ h => h) (Or.inl ⟨by rfl, ?_⟩) hHeld ?_
    rotate_left
    · (intro w hSw; (try dsimp only at hSw); go_simp)
      all_goals with_reducible rfl
    try simp only [Act.put, List.setIfInBounds_toArray, List.set_cons_zero, List.set_cons_succ]
    refine wpAnyH_take (i := 9) (oi := { dst := some 53, op := Go.Op.load 43 (Go.Operand.tmp 5), type := 43, pos := "law.go:143", after := #[{ on := 8, ground := Go.Ground.guard }], guard := some (8, false) }) (v := undef) rfl (by kernel_rfl) (by kernel_rfl) (by kernel_rfl) (fun _ _ _ h => h) (Or.inr ⟨by kernel_rfl, rfl⟩) hHeld ?_
    try simp only [Act.put, List.setIfInBounds_toArray, List.set_cons_zero, List.set_cons_succ]
    refine wpAnyH_take (i := 10) (oi := { dst := some 54, op := Go.Op.load 43 (Go.Operand.tmp 6), type := 43, pos := "law.go:143", after := #[{ on := 8, ground := Go.Ground.guard }], guard := some (8, false) }) (v := undef) rfl (by kernel_rfl) (by kernel_rfl) (by kernel_rfl) (fun _ _ _ h => h) (Or.inr ⟨by kernel_rfl, rfl⟩) hHeld ?_
    try simp only [Act.put, List.setIfInBounds_toArray, List.set_cons_zero, List.set_cons_succ]
    refine wpAnyH_take (i := 11) (oi := { dst := some 55, op := Go.Op.call { callee := Go.Callee.value (Go.Operand.func 35), args := #[Go.Operand.tmp 53, Go.Operand.tmp 54], argTypes := #[43, 43] }, type := 4, pos := "law.go:143", after := #[{ on := 9, ground := Go.Ground.data }, { on := 10, ground := Go.Ground.data }, { on := 8, ground := Go.Ground.chain }, { on := 8, ground := Go.Ground.guard }], guard := some (8, false) }) (v := undef) rfl (by kernel_rfl) (by kernel_rfl) (by kernel_rfl) (fun _ _ _ h => h) (Or.inr ⟨by kernel_rfl, rfl⟩) hHeld ?_
    try simp only [Act.put, List.setIfInBounds_toArray, List.set_cons_zero, List.set_cons_succ]
    refine wpAnyH_take (i := 12) (oi := { dst := some 56, op := Go.Op.unOp Go.UnOp.not 4 (Go.Operand.tmp 55), type := 4, pos := "law.go:143", after := #[{ on := 11, ground := Go.Ground.data }, { on := 8, ground := Go.Ground.guard }], guard := some (8, false) }) (v := undef) rfl (by kernel_rfl) (by kernel_rfl) (by kernel_rfl) (fun _ _ _ h => h) (Or.inr ⟨by kernel_rfl, rfl⟩) hHeld ?_
    try simp only [Act.put, List.setIfInBounds_toArray, List.set_cons_zero, List.set_cons_succ]
    refine wpAnyH_take (i := 13) (oi := { dst := some 57, op := Go.Op.pick (Go.Operand.tmp 52) (Go.Operand.const (Go.Value.bool true)) (Go.Operand.tmp 56), type := 4, pos := "law.go:143", after := #[{ on := 8, ground := Go.Ground.data }, { on := 12, ground := Go.Ground.data }, { on := 3, ground := Go.Ground.guard }], guard := some (3, true) }) (v := ?_) rfl (by kernel_rfl) (by kernel_rfl) (by kernel_rfl) (fun _ _ _ h => h) (Or.inl ⟨by rfl, ?_⟩) hHeld ?_
    rotate_left
    · (intro w hSw; (try dsimp only at hSw); go_simp)
      all_goals with_reducible rfl
    try simp only [Act.put, List.setIfInBounds_toArray, List.set_cons_zero, List.set_cons_succ]
    refine wpAnyH_take (i := 14) (oi := { dst := some 58, op := Go.Op.move (Go.Operand.tmp 57), type := 4, pos := "law.go:143", after := #[{ on := 13, ground := Go.Ground.data }, { on := 11, ground := Go.Ground.chain }, { on := 3, ground := Go.Ground.guard }], guard := some (3, true) }) (v := ?_) rfl (by kernel_rfl) (by kernel_rfl) (by kernel_rfl) (fun _ _ _ h => h) (Or.inl ⟨by rfl, ?_⟩) hHeld ?_
    rotate_left
    · (intro w hSw; (try dsimp only at hSw); go_simp)
      all_goals with_reducible rfl
    try simp only [Act.put, List.setIfInBounds_toArray, List.set_cons_zero, List.set_cons_succ]
    refine wpAnyH_take (i := 15) (oi := { dst := some 59, op := Go.Op.load 43 (Go.Operand.tmp 4), type := 43, pos := "law.go:143", after := #[{ on := 14, ground := Go.Ground.guard }], guard := some (14, false) }) (v := undef) rfl (by kernel_rfl) (by kernel_rfl) (by kernel_rfl) (fun _ _ _ h => h) (Or.inr ⟨by kernel_rfl, rfl⟩) hHeld ?_
    try simp only [Act.put, List.setIfInBounds_toArray, List.set_cons_zero, List.set_cons_succ]
    refine wpAnyH_take (i := 16) (oi := { dst := some 60, op := Go.Op.load 43 (Go.Operand.tmp 6), type := 43, pos := "law.go:143", after := #[{ on := 14, ground := Go.Ground.guard }], guard := some (14, false) }) (v := undef) rfl (by kernel_rfl) (by kernel_rfl) (by kernel_rfl) (fun _ _ _ h => h) (Or.inr ⟨by kernel_rfl, rfl⟩) hHeld ?_
    try simp only [Act.put, List.setIfInBounds_toArray, List.set_cons_zero, List.set_cons_succ]
    refine wpAnyH_take (i := 17) (oi := { dst := some 61, op := Go.Op.call { callee := Go.Callee.value (Go.Operand.func 35), args := #[Go.Operand.tmp 59, Go.Operand.tmp 60], argTypes := #[43, 43] }, type := 4, pos := "law.go:143", after := #[{ on := 15, ground := Go.Ground.data }, { on := 16, ground := Go.Ground.data }, { on := 14, ground := Go.Ground.chain }, { on := 14, ground := Go.Ground.guard }], guard := some (14, false) }) (v := undef) rfl (by kernel_rfl) (by kernel_rfl) (by kernel_rfl) (fun _ _ _ h => h) (Or.inr ⟨by kernel_rfl, rfl⟩) hHeld ?_
    try simp only [Act.put, List.setIfInBounds_toArray, List.set_cons_zero, List.set_cons_succ]
    refine wpAnyH_take (i := 18) (oi := { dst := some 62, op := Go.Op.pick (Go.Operand.tmp 58) (Go.Operand.const (Go.Value.bool true)) (Go.Operand.tmp 61), type := 4, pos := "law.go:143", after := #[{ on := 14, ground := Go.Ground.data }, { on := 17, ground := Go.Ground.data }, { on := 3, ground := Go.Ground.guard }], guard := some (3, true) }) (v := ?_) rfl (by kernel_rfl) (by kernel_rfl) (by kernel_rfl) (fun _ _ _ h => h) (Or.inl ⟨by rfl, ?_⟩) hHeld ?_
    rotate_left
    · (intro w hSw; (try dsimp only at hSw); go_simp)
      all_goals with_reducible rfl
    try simp only [Act.put, List.setIfInBounds_toArray, List.set_cons_zero, List.set_cons_succ]
    refine wpAnyH_take (i := 19) (oi := { dst := some 63, op := Go.Op.pick (Go.Operand.tmp 47) (Go.Operand.tmp 62) (Go.Operand.const (Go.Value.bool false)), type := 4, pos := "law.go:143", after := #[{ on := 3, ground := Go.Ground.data }, { on := 18, ground := Go.Ground.data }], guard := none }) (v := ?_) rfl (by kernel_rfl) (by kernel_rfl) (by kernel_rfl) (fun _ _ _ h => h) (Or.inl ⟨by rfl, ?_⟩) hHeld ?_
    rotate_left
    · (intro w hSw; (try dsimp only at hSw); go_simp)
      all_goals with_reducible rfl
    try simp only [Act.put, List.setIfInBounds_toArray, List.set_cons_zero, List.set_cons_succ]
    refine wpAnyH_take (i := 20) (oi := { dst := some 64, op := Go.Op.move (Go.Operand.tmp 63), type := 4, pos := "law.go:143", after := #[{ on := 19, ground := Go.Ground.data }, { on := 17, ground := Go.Ground.chain }], guard := none }) (v := ?_) rfl (by kernel_rfl) (by kernel_rfl) (by kernel_rfl) (fun _ _ _ h => h) (Or.inl ⟨by rfl, ?_⟩) hHeld ?_
    rotate_left
    · (intro w hSw; (try dsimp only at hSw); go_simp)
      all_goals with_reducible rfl
    try simp only [Act.put, List.setIfInBounds_toArray, List.set_cons_zero, List.set_cons_succ]
    refine wpAnyH_take (i := 21) (oi := { dst := some 65, op := Go.Op.move (Go.Operand.tmp 3), type := 23, pos := "law.go:143", after := #[{ on := 20, ground := Go.Ground.guard }], guard := some (20, true) }) (v := ?_) rfl (by kernel_rfl) (by kernel_rfl) (by kernel_rfl) (fun _ _ _ h => h) (Or.inl ⟨by rfl, ?_⟩) hHeld ?_
    rotate_left
    · (intro w hSw; (try dsimp only at hSw); go_simp)
      all_goals with_reducible rfl
    try simp only [Act.put, List.setIfInBounds_toArray, List.set_cons_zero, List.set_cons_succ]
    refine wpAnyH_take (i := 22) (oi := { dst := some 66, op := Go.Op.load 43 (Go.Operand.tmp 4), type := 43, pos := "law.go:143", after := #[{ on := 20, ground := Go.Ground.guard }], guard := some (20, true) }) (v := ?_) rfl (by kernel_rfl) (by kernel_rfl) (by kernel_rfl) (fun _ _ _ h => h) (Or.inl ⟨by rfl, ?_⟩) hHeld ?_
    rotate_left
    · (intro w hSw; (try dsimp only at hSw); go_simp)
      all_goals with_reducible rfl
    try simp only [Act.put, List.setIfInBounds_toArray, List.set_cons_zero, List.set_cons_succ]
    refine wpAnyH_take (i := 24) (oi := { dst := some 68, op := Go.Op.load 43 (Go.Operand.tmp 4), type := 43, pos := "law.go:143", after := #[{ on := 20, ground := Go.Ground.guard }], guard := some (20, true) }) (v := ?_) rfl (by kernel_rfl) (by kernel_rfl) (by kernel_rfl) (fun _ _ _ h => h) (Or.inl ⟨by rfl, ?_⟩) hHeld ?_
    rotate_left
    · (intro w hSw; (try dsimp only at hSw); go_simp)
      all_goals with_reducible rfl
    try simp only [Act.put, List.setIfInBounds_toArray, List.set_cons_zero, List.set_cons_succ]
    refine wpAnyH_ready (rs := [23]) (by kernel_rfl) (by simp) ?_
    refine AllReadyH.cons (o := { dst := some 67, op := Go.Op.call { callee := Go.Callee.value (Go.Operand.func 40), args := #[Go.Operand.tmp 65, Go.Operand.tmp 66], argTypes := #[23, 43] }, type := 43, pos := "law.go:143", after := #[{ on := 21, ground := Go.Ground.data }, { on := 22, ground := Go.Ground.data }, { on := 20, ground := Go.Ground.chain }, { on := 20, ground := Go.Ground.guard }], guard := some (20, true) }) rfl (fun K hK => ?_) AllReadyH.nil
    go_simp
    go_at_call 40
    refine (hAp.out _ (hb.out.trans' hd)).mono ?_
    rintro e w20 ⟨⟨y1, HY1, rfl⟩, hg⟩
    have hA := hA.bel hg; have hB := hB.bel hg; have hC := hC.bel hg; have hd := hd.trans' hg; clear hg hAp; obtain rfl := HY1.out
    first | refine hK.out _ _ ?_ (fun hHeld => ?_) | (go_wp2_with fail; refine hK.out _ _ ?_ (fun hHeld => ?_))
    · (try dsimp only); exact ⟨hA.cells, hB.cells, hC.cells⟩
    clear hK K
    try simp only [Act.put, List.setIfInBounds_toArray, List.set_cons_zero, List.set_cons_succ]
    refine wpAnyH_ready (rs := [25]) (by kernel_rfl) (by simp) ?_
    refine AllReadyH.cons (o := { dst := some 69, op := Go.Op.call { callee := Go.Callee.value (Go.Operand.func 35), args := #[Go.Operand.tmp 67, Go.Operand.tmp 68], argTypes := #[43, 43] }, type := 4, pos := "law.go:143", after := #[{ on := 23, ground := Go.Ground.data }, { on := 24, ground := Go.Ground.data }, { on := 23, ground := Go.Ground.chain }, { on := 20, ground := Go.Ground.guard }], guard := some (20, true) }) rfl (fun K hK => ?_) AllReadyH.nil
    go_simp
    go_at_call 35
    refine (hU5.out _).mono ?_
    rintro e w20 ⟨rfl, hg⟩
    have hA := hA.bel hg; have hB := hB.bel hg; have hC := hC.bel hg; have hd := hd.trans' hg; clear hg hU5
    first | refine hK.out _ _ ?_ (fun hHeld => ?_) | (go_wp2_with fail; refine hK.out _ _ ?_ (fun hHeld => ?_))
    · (try dsimp only); exact ⟨hA.cells, hB.cells, hC.cells⟩
    clear hK K
    try simp only [Act.put, List.setIfInBounds_toArray, List.set_cons_zero, List.set_cons_succ]
    refine wpAnyH_take (i := 26) (oi := { dst := some 70, op := Go.Op.pick (Go.Operand.tmp 64) (Go.Operand.tmp 69) (Go.Operand.const (Go.Value.bool false)), type := 4, pos := "law.go:143", after := #[{ on := 20, ground := Go.Ground.data }, { on := 25, ground := Go.Ground.data }], guard := none }) (v := ?_) rfl (by kernel_rfl) (by kernel_rfl) (by kernel_rfl) (fun _ _ _ h => h) (Or.inl ⟨by rfl, ?_⟩) hHeld ?_
    rotate_left
    · (intro w hSw; (try dsimp only at hSw); go_simp)
      all_goals with_reducible rfl
    try simp only [Act.put, List.setIfInBounds_toArray, List.set_cons_zero, List.set_cons_succ]
    refine wpAnyH_take (i := 27) (oi := { dst := some 8, op := Go.Op.assign (Go.Operand.tmp 70), type := 4, pos := "law.go:143", after := #[{ on := 26, ground := Go.Ground.data }, { on := 25, ground := Go.Ground.chain }, { on := 0, ground := Go.Ground.phase }, { on := 1, ground := Go.Ground.phase }, { on := 2, ground := Go.Ground.phase }, { on := 3, ground := Go.Ground.phase }, { on := 4, ground := Go.Ground.phase }, { on := 5, ground := Go.Ground.phase }, { on := 6, ground := Go.Ground.phase }, { on := 7, ground := Go.Ground.phase }, { on := 8, ground := Go.Ground.phase }, { on := 9, ground := Go.Ground.phase }, { on := 10, ground := Go.Ground.phase }, { on := 11, ground := Go.Ground.phase }, { on := 12, ground := Go.Ground.phase }, { on := 13, ground := Go.Ground.phase }, { on := 14, ground := Go.Ground.phase }, { on := 15, ground := Go.Ground.phase }, { on := 16, ground := Go.Ground.phase }, { on := 17, ground := Go.Ground.phase }, { on := 18, ground := Go.Ground.phase }, { on := 19, ground := Go.Ground.phase }, { on := 20, ground := Go.Ground.phase }, { on := 21, ground := Go.Ground.phase }, { on := 22, ground := Go.Ground.phase }, { on := 23, ground := Go.Ground.phase }, { on := 24, ground := Go.Ground.phase }, { on := 25, ground := Go.Ground.phase }, { on := 26, ground := Go.Ground.phase }], guard := none }) (v := ?_) rfl (by kernel_rfl) (by kernel_rfl) (by kernel_rfl) (fun _ _ _ h => h) (Or.inl ⟨by rfl, ?_⟩) hHeld ?_
    rotate_left
    · (intro w hSw; (try dsimp only at hSw); go_simp)
      all_goals with_reducible rfl
    try simp only [Act.put, List.setIfInBounds_toArray, List.set_cons_zero, List.set_cons_succ]
    refine wpAnyH_done (by kernel_rfl) ?_ _
    all_goals go_wp2
    all_goals go_ret
    all_goals exact ⟨rfl, hb.out.trans' hd⟩
  rw [q1] at hU2
  cases q2 : underD b c
  case false =>
    rw [q2] at hU3
    clear q1 q2 hU4
    go_enter Try.func9, Try.ntmps9
    go_wp2_with (fail)
    refine (lives5_any _).mono ?_
    rintro e w1 ⟨rfl, hg⟩
    have hA := hA.bel hg
    have hB := hB.bel hg
    have hC := hC.bel hg
    have hb := hb.trans' hg
    clear hg
    obtain ⟨c0, c1, c2, c3, c4, c5, c6, c7, c8, c9, c10⟩ := hA.cells
    go_wp2_with (fail)
    refine (hLa.out _).mono ?_
    rintro e w2 ⟨rfl, hg⟩
    have hA := hA.bel hg
    have hB := hB.bel hg
    have hC := hC.bel hg
    have hb := hb.trans' hg
    clear hg
    clear c0 c1 c2 c3 c4 c5 c6 c7 c8 c9 c10
    obtain ⟨c0, c1, c2, c3, c4, c5, c6, c7, c8, c9, c10⟩ := hB.cells
    go_wp2_with (fail)
    refine (hLb.out _).mono ?_
    rintro e w3 ⟨rfl, hg⟩
    have hA := hA.bel hg
    have hB := hB.bel hg
    have hC := hC.bel hg
    have hb := hb.trans' hg
    clear hg
    clear c0 c1 c2 c3 c4 c5 c6 c7 c8 c9 c10
    obtain ⟨c0, c1, c2, c3, c4, c5, c6, c7, c8, c9, c10⟩ := hC.cells
    go_wp2_with (fail)
    refine (hLc.out _).mono ?_
    rintro e w4 ⟨rfl, hg⟩
    have hA := hA.bel hg
    have hB := hB.bel hg
    have hC := hC.bel hg
    have hb := hb.trans' hg
    clear hg
    clear c0 c1 c2 c3 c4 c5 c6 c7 c8 c9 c10
    go_wp2_with (fail)
    refine (hLl.out _ hb).mono ?_
    rintro e w5 ⟨rfl, hg⟩
    have hA := hA.bel hg
    have hB := hB.bel hg
    have hC := hC.bel hg
    have hb := hb.trans' hg
    clear hg
    obtain ⟨c0, c1, c2, c3, c4, c5, c6, c7, c8, c9, c10⟩ := hA.cells
    go_wp2_with (fail)
    refine (hKa.out _).mono ?_
    rintro e w6 ⟨rfl, hg⟩
    have hA := hA.bel hg
    have hB := hB.bel hg
    have hC := hC.bel hg
    have hb := hb.trans' hg
    clear hg
    clear c0 c1 c2 c3 c4 c5 c6 c7 c8 c9 c10
    obtain ⟨c0, c1, c2, c3, c4, c5, c6, c7, c8, c9, c10⟩ := hB.cells
    go_wp2_with (fail)
    refine (hKb.out _).mono ?_
    rintro e w7 ⟨rfl, hg⟩
    have hA := hA.bel hg
    have hB := hB.bel hg
    have hC := hC.bel hg
    have hb := hb.trans' hg
    clear hg
    clear c0 c1 c2 c3 c4 c5 c6 c7 c8 c9 c10
    obtain ⟨c0, c1, c2, c3, c4, c5, c6, c7, c8, c9, c10⟩ := hC.cells
    go_wp2_with (fail)
    refine (hKc.out _).mono ?_
    rintro e w8 ⟨rfl, hg⟩
    have hA := hA.bel hg
    have hB := hB.bel hg
    have hC := hC.bel hg
    have hb := hb.trans' hg
    clear hg
    clear c0 c1 c2 c3 c4 c5 c6 c7 c8 c9 c10
    have hd : Bel w8 w8.drew := bel_drew' (Below.refl _ _)
    go_wp2
    obtain ⟨c0, c1, c2, c3, c4, c5, c6, c7, c8, c9, c10⟩ := hA.cells
    obtain ⟨d0, d1, d2, d3, d4, d5, d6, d7, d8, d9, d10⟩ := hB.cells
    obtain ⟨f0, f1, f2, f3, f4, f5, f6, f7, f8, f9, f10⟩ := hC.cells
    have hA := hA.drew
    have hB := hB.drew
    have hC := hC.drew
    have hb := Lib.hid hb
    refine wp_region_held_drew (S := (fun w' => (w'.cell? ⟨w.heap.size, 0, none⟩ = some (.string a.says) ∧ w'.cell? ⟨w.heap.size, 1, none⟩ = some (.string a.pred) ∧ w'.cell? ⟨w.heap.size, 2, none⟩ = some (.int .i64 a.n) ∧ w'.cell? ⟨w.heap.size, 3, none⟩ = some (.bool a.t0.v) ∧ w'.cell? ⟨w.heap.size, 4, none⟩ = some (.string a.t0.name) ∧ w'.cell? ⟨w.heap.size, 5, none⟩ = some (.bool a.t1.v) ∧ w'.cell? ⟨w.heap.size, 6, none⟩ = some (.string a.t1.name) ∧ w'.cell? ⟨w.heap.size, 7, none⟩ = some (.bool a.t2.v) ∧ w'.cell? ⟨w.heap.size, 8, none⟩ = some (.string a.t2.name) ∧ w'.cell? ⟨w.heap.size, 9, none⟩ = some (.bool a.t3.v) ∧ w'.cell? ⟨w.heap.size, 10, none⟩ = some (.string a.t3.name)) ∧ (w'.cell? ⟨w.heap.size + 1, 0, none⟩ = some (.string b.says) ∧ w'.cell? ⟨w.heap.size + 1, 1, none⟩ = some (.string b.pred) ∧ w'.cell? ⟨w.heap.size + 1, 2, none⟩ = some (.int .i64 b.n) ∧ w'.cell? ⟨w.heap.size + 1, 3, none⟩ = some (.bool b.t0.v) ∧ w'.cell? ⟨w.heap.size + 1, 4, none⟩ = some (.string b.t0.name) ∧ w'.cell? ⟨w.heap.size + 1, 5, none⟩ = some (.bool b.t1.v) ∧ w'.cell? ⟨w.heap.size + 1, 6, none⟩ = some (.string b.t1.name) ∧ w'.cell? ⟨w.heap.size + 1, 7, none⟩ = some (.bool b.t2.v) ∧ w'.cell? ⟨w.heap.size + 1, 8, none⟩ = some (.string b.t2.name) ∧ w'.cell? ⟨w.heap.size + 1, 9, none⟩ = some (.bool b.t3.v) ∧ w'.cell? ⟨w.heap.size + 1, 10, none⟩ = some (.string b.t3.name)) ∧ (w'.cell? ⟨w.heap.size + 2, 0, none⟩ = some (.string c.says) ∧ w'.cell? ⟨w.heap.size + 2, 1, none⟩ = some (.string c.pred) ∧ w'.cell? ⟨w.heap.size + 2, 2, none⟩ = some (.int .i64 c.n) ∧ w'.cell? ⟨w.heap.size + 2, 3, none⟩ = some (.bool c.t0.v) ∧ w'.cell? ⟨w.heap.size + 2, 4, none⟩ = some (.string c.t0.name) ∧ w'.cell? ⟨w.heap.size + 2, 5, none⟩ = some (.bool c.t1.v) ∧ w'.cell? ⟨w.heap.size + 2, 6, none⟩ = some (.string c.t1.name) ∧ w'.cell? ⟨w.heap.size + 2, 7, none⟩ = some (.bool c.t2.v) ∧ w'.cell? ⟨w.heap.size + 2, 8, none⟩ = some (.string c.t2.name) ∧ w'.cell? ⟨w.heap.size + 2, 9, none⟩ = some (.bool c.t3.v) ∧ w'.cell? ⟨w.heap.size + 2, 10, none⟩ = some (.string c.t3.name)))) (by kernel_rfl) (⟨hA.cells, hB.cells, hC.cells⟩) (fun hHeld => ?_)
    refine wpAnyH_take (i := 0) (oi := { dst := some 44, op := Go.Op.load 43 (Go.Operand.tmp 4), type := 43, pos := "law.go:143", after := #[], guard := none }) (v := ?_) rfl (by kernel_rfl) (by kernel_rfl) (by kernel_rfl) (fun _ _ _ h => h) (Or.inl ⟨by rfl, ?_⟩) hHeld ?_
    rotate_left
    · (intro w hSw; (try dsimp only at hSw); go_simp)
      all_goals with_reducible rfl
    try simp only [Act.put, List.setIfInBounds_toArray, List.set_cons_zero, List.set_cons_succ]
    refine wpAnyH_take (i := 1) (oi := { dst := some 45, op := Go.Op.load 43 (Go.Operand.tmp 4), type := 43, pos := "law.go:143", after := #[], guard := none }) (v := ?_) rfl (by kernel_rfl) (by kernel_rfl) (by kernel_rfl) (fun _ _ _ h => h) (Or.inl ⟨by rfl, ?_⟩) hHeld ?_
    rotate_left
    · (intro w hSw; (try dsimp only at hSw); go_simp)
      all_goals with_reducible rfl
    try simp only [Act.put, List.setIfInBounds_toArray, List.set_cons_zero, List.set_cons_succ]
    refine wpAnyH_ready (rs := [2]) (by kernel_rfl) (by simp) ?_
    refine AllReadyH.cons (o := { dst := some 46, op := Go.Op.call { callee := Go.Callee.value (Go.Operand.func 35), args := #[Go.Operand.tmp 44, Go.Operand.tmp 45], argTypes := #[43, 43] }, type := 4, pos := "law.go:143", after := #[{ on := 0, ground := Go.Ground.data }, { on := 1, ground := Go.Ground.data }], guard := none }) rfl (fun K hK => ?_) AllReadyH.nil
    go_simp
    go_at_call 35
    refine (hU1.out _).mono ?_
    rintro e w20 ⟨rfl, hg⟩
    have hA := hA.bel hg; have hB := hB.bel hg; have hC := hC.bel hg; have hd := hd.trans' hg; clear hg hU1
    first | refine hK.out _ _ ?_ (fun hHeld => ?_) | (go_wp2_with fail; refine hK.out _ _ ?_ (fun hHeld => ?_))
    · (try dsimp only); exact ⟨hA.cells, hB.cells, hC.cells⟩
    clear hK K
    try simp only [Act.put, List.setIfInBounds_toArray, List.set_cons_zero, List.set_cons_succ]
    refine wpAnyH_take (i := 3) (oi := { dst := some 47, op := Go.Op.move (Go.Operand.tmp 46), type := 4, pos := "law.go:143", after := #[{ on := 2, ground := Go.Ground.data }, { on := 2, ground := Go.Ground.chain }], guard := none }) (v := ?_) rfl (by kernel_rfl) (by kernel_rfl) (by kernel_rfl) (fun _ _ _ h => h) (Or.inl ⟨by rfl, ?_⟩) hHeld ?_
    rotate_left
    · (intro w hSw; (try dsimp only at hSw); go_simp)
      all_goals with_reducible rfl
    try simp only [Act.put, List.setIfInBounds_toArray, List.set_cons_zero, List.set_cons_succ]
    refine wpAnyH_take (i := 4) (oi := { dst := some 48, op := Go.Op.load 43 (Go.Operand.tmp 4), type := 43, pos := "law.go:143", after := #[{ on := 3, ground := Go.Ground.guard }], guard := some (3, true) }) (v := ?_) rfl (by kernel_rfl) (by kernel_rfl) (by kernel_rfl) (fun _ _ _ h => h) (Or.inl ⟨by rfl, ?_⟩) hHeld ?_
    rotate_left
    · (intro w hSw; (try dsimp only at hSw); go_simp)
      all_goals with_reducible rfl
    try simp only [Act.put, List.setIfInBounds_toArray, List.set_cons_zero, List.set_cons_succ]
    refine wpAnyH_take (i := 5) (oi := { dst := some 49, op := Go.Op.load 43 (Go.Operand.tmp 5), type := 43, pos := "law.go:143", after := #[{ on := 3, ground := Go.Ground.guard }], guard := some (3, true) }) (v := ?_) rfl (by kernel_rfl) (by kernel_rfl) (by kernel_rfl) (fun _ _ _ h => h) (Or.inl ⟨by rfl, ?_⟩) hHeld ?_
    rotate_left
    · (intro w hSw; (try dsimp only at hSw); go_simp)
      all_goals with_reducible rfl
    try simp only [Act.put, List.setIfInBounds_toArray, List.set_cons_zero, List.set_cons_succ]
    refine wpAnyH_ready (rs := [6]) (by kernel_rfl) (by simp) ?_
    refine AllReadyH.cons (o := { dst := some 50, op := Go.Op.call { callee := Go.Callee.value (Go.Operand.func 35), args := #[Go.Operand.tmp 48, Go.Operand.tmp 49], argTypes := #[43, 43] }, type := 4, pos := "law.go:143", after := #[{ on := 4, ground := Go.Ground.data }, { on := 5, ground := Go.Ground.data }, { on := 3, ground := Go.Ground.chain }, { on := 3, ground := Go.Ground.guard }], guard := some (3, true) }) rfl (fun K hK => ?_) AllReadyH.nil
    go_simp
    go_at_call 35
    refine (hU2.out _).mono ?_
    rintro e w20 ⟨rfl, hg⟩
    have hA := hA.bel hg; have hB := hB.bel hg; have hC := hC.bel hg; have hd := hd.trans' hg; clear hg hU2
    first | refine hK.out _ _ ?_ (fun hHeld => ?_) | (go_wp2_with fail; refine hK.out _ _ ?_ (fun hHeld => ?_))
    · (try dsimp only); exact ⟨hA.cells, hB.cells, hC.cells⟩
    clear hK K
    try simp only [Act.put, List.setIfInBounds_toArray, List.set_cons_zero, List.set_cons_succ]
    refine wpAnyH_take (i := 7) (oi := { dst := some 51, op := Go.Op.unOp Go.UnOp.not 4 (Go.Operand.tmp 50), type := 4, pos := "law.go:143", after := #[{ on := 6, ground := Go.Ground.data }, { on := 3, ground := Go.Ground.guard }], guard := some (3, true) }) (v := ?_) rfl (by kernel_rfl) (by kernel_rfl) (by kernel_rfl) (fun _ _ _ h => h) (Or.inl ⟨by rfl, ?_⟩) hHeld ?_
    rotate_left
    · (intro w hSw; (try dsimp only at hSw); go_simp)
      all_goals with_reducible rfl
    try simp only [Act.put, List.setIfInBounds_toArray, List.set_cons_zero, List.set_cons_succ]
    refine wpAnyH_take (i := 8) (oi := { dst := some 52, op := Go.Op.move (Go.Operand.tmp 51), type := 4, pos := "law.go:143", after := #[{ on := 7, ground := Go.Ground.data }, { on := 6, ground := Go.Ground.chain }, { on := 3, ground := Go.Ground.guard }], guard := some (3, true) }) (v := ?_) rfl (by kernel_rfl) (by kernel_rfl) (by kernel_rfl) (fun _ _ _ h => h) (Or.inl ⟨by rfl, ?_⟩) hHeld ?_
    rotate_left
    · (intro w hSw; (try dsimp only at hSw); go_simp)
      all_goals with_reducible rfl
    try simp only [Act.put, List.setIfInBounds_toArray, List.set_cons_zero, List.set_cons_succ]
    refine wpAnyH_take (i := 9) (oi := { dst := some 53, op := Go.Op.load 43 (Go.Operand.tmp 5), type := 43, pos := "law.go:143", after := #[{ on := 8, ground := Go.Ground.guard }], guard := some (8, false) }) (v := ?_) rfl (by kernel_rfl) (by kernel_rfl) (by kernel_rfl) (fun _ _ _ h => h) (Or.inl ⟨by rfl, ?_⟩) hHeld ?_
    rotate_left
    · (intro w hSw; (try dsimp only at hSw); go_simp)
      all_goals with_reducible rfl
    try simp only [Act.put, List.setIfInBounds_toArray, List.set_cons_zero, List.set_cons_succ]
    refine wpAnyH_take (i := 10) (oi := { dst := some 54, op := Go.Op.load 43 (Go.Operand.tmp 6), type := 43, pos := "law.go:143", after := #[{ on := 8, ground := Go.Ground.guard }], guard := some (8, false) }) (v := ?_) rfl (by kernel_rfl) (by kernel_rfl) (by kernel_rfl) (fun _ _ _ h => h) (Or.inl ⟨by rfl, ?_⟩) hHeld ?_
    rotate_left
    · (intro w hSw; (try dsimp only at hSw); go_simp)
      all_goals with_reducible rfl
    try simp only [Act.put, List.setIfInBounds_toArray, List.set_cons_zero, List.set_cons_succ]
    refine wpAnyH_ready (rs := [11]) (by kernel_rfl) (by simp) ?_
    refine AllReadyH.cons (o := { dst := some 55, op := Go.Op.call { callee := Go.Callee.value (Go.Operand.func 35), args := #[Go.Operand.tmp 53, Go.Operand.tmp 54], argTypes := #[43, 43] }, type := 4, pos := "law.go:143", after := #[{ on := 9, ground := Go.Ground.data }, { on := 10, ground := Go.Ground.data }, { on := 8, ground := Go.Ground.chain }, { on := 8, ground := Go.Ground.guard }], guard := some (8, false) }) rfl (fun K hK => ?_) AllReadyH.nil
    go_simp
    go_at_call 35
    refine (hU3.out _).mono ?_
    rintro e w20 ⟨rfl, hg⟩
    have hA := hA.bel hg; have hB := hB.bel hg; have hC := hC.bel hg; have hd := hd.trans' hg; clear hg hU3
    first | refine hK.out _ _ ?_ (fun hHeld => ?_) | (go_wp2_with fail; refine hK.out _ _ ?_ (fun hHeld => ?_))
    · (try dsimp only); exact ⟨hA.cells, hB.cells, hC.cells⟩
    clear hK K
    try simp only [Act.put, List.setIfInBounds_toArray, List.set_cons_zero, List.set_cons_succ]
    refine wpAnyH_take (i := 12) (oi := { dst := some 56, op := Go.Op.unOp Go.UnOp.not 4 (Go.Operand.tmp 55), type := 4, pos := "law.go:143", after := #[{ on := 11, ground := Go.Ground.data }, { on := 8, ground := Go.Ground.guard }], guard := some (8, false) }) (v := ?_) rfl (by kernel_rfl) (by kernel_rfl) (by kernel_rfl) (fun _ _ _ h => h) (Or.inl ⟨by rfl, ?_⟩) hHeld ?_
    rotate_left
    · (intro w hSw; (try dsimp only at hSw); go_simp)
      all_goals with_reducible rfl
    try simp only [Act.put, List.setIfInBounds_toArray, List.set_cons_zero, List.set_cons_succ]
    refine wpAnyH_take (i := 13) (oi := { dst := some 57, op := Go.Op.pick (Go.Operand.tmp 52) (Go.Operand.const (Go.Value.bool true)) (Go.Operand.tmp 56), type := 4, pos := "law.go:143", after := #[{ on := 8, ground := Go.Ground.data }, { on := 12, ground := Go.Ground.data }, { on := 3, ground := Go.Ground.guard }], guard := some (3, true) }) (v := ?_) rfl (by kernel_rfl) (by kernel_rfl) (by kernel_rfl) (fun _ _ _ h => h) (Or.inl ⟨by rfl, ?_⟩) hHeld ?_
    rotate_left
    · (intro w hSw; (try dsimp only at hSw); go_simp)
      all_goals with_reducible rfl
    try simp only [Act.put, List.setIfInBounds_toArray, List.set_cons_zero, List.set_cons_succ]
    refine wpAnyH_take (i := 14) (oi := { dst := some 58, op := Go.Op.move (Go.Operand.tmp 57), type := 4, pos := "law.go:143", after := #[{ on := 13, ground := Go.Ground.data }, { on := 11, ground := Go.Ground.chain }, { on := 3, ground := Go.Ground.guard }], guard := some (3, true) }) (v := ?_) rfl (by kernel_rfl) (by kernel_rfl) (by kernel_rfl) (fun _ _ _ h => h) (Or.inl ⟨by rfl, ?_⟩) hHeld ?_
    rotate_left
    · (intro w hSw; (try dsimp only at hSw); go_simp)
      all_goals with_reducible rfl
    try simp only [Act.put, List.setIfInBounds_toArray, List.set_cons_zero, List.set_cons_succ]
    refine wpAnyH_take (i := 15) (oi := { dst := some 59, op := Go.Op.load 43 (Go.Operand.tmp 4), type := 43, pos := "law.go:143", after := #[{ on := 14, ground := Go.Ground.guard }], guard := some (14, false) }) (v := undef) rfl (by kernel_rfl) (by kernel_rfl) (by kernel_rfl) (fun _ _ _ h => h) (Or.inr ⟨by kernel_rfl, rfl⟩) hHeld ?_
    try simp only [Act.put, List.setIfInBounds_toArray, List.set_cons_zero, List.set_cons_succ]
    refine wpAnyH_take (i := 16) (oi := { dst := some 60, op := Go.Op.load 43 (Go.Operand.tmp 6), type := 43, pos := "law.go:143", after := #[{ on := 14, ground := Go.Ground.guard }], guard := some (14, false) }) (v := undef) rfl (by kernel_rfl) (by kernel_rfl) (by kernel_rfl) (fun _ _ _ h => h) (Or.inr ⟨by kernel_rfl, rfl⟩) hHeld ?_
    try simp only [Act.put, List.setIfInBounds_toArray, List.set_cons_zero, List.set_cons_succ]
    refine wpAnyH_take (i := 17) (oi := { dst := some 61, op := Go.Op.call { callee := Go.Callee.value (Go.Operand.func 35), args := #[Go.Operand.tmp 59, Go.Operand.tmp 60], argTypes := #[43, 43] }, type := 4, pos := "law.go:143", after := #[{ on := 15, ground := Go.Ground.data }, { on := 16, ground := Go.Ground.data }, { on := 14, ground := Go.Ground.chain }, { on := 14, ground := Go.Ground.guard }], guard := some (14, false) }) (v := undef) rfl (by kernel_rfl) (by kernel_rfl) (by kernel_rfl) (fun _ _ _ h => h) (Or.inr ⟨by kernel_rfl, rfl⟩) hHeld ?_
    try simp only [Act.put, List.setIfInBounds_toArray, List.set_cons_zero, List.set_cons_succ]
    refine wpAnyH_take (i := 18) (oi := { dst := some 62, op := Go.Op.pick (Go.Operand.tmp 58) (Go.Operand.const (Go.Value.bool true)) (Go.Operand.tmp 61), type := 4, pos := "law.go:143", after := #[{ on := 14, ground := Go.Ground.data }, { on := 17, ground := Go.Ground.data }, { on := 3, ground := Go.Ground.guard }], guard := some (3, true) }) (v := ?_) rfl (by kernel_rfl) (by kernel_rfl) (by kernel_rfl) (fun _ _ _ h => h) (Or.inl ⟨by rfl, ?_⟩) hHeld ?_
    rotate_left
    · (intro w hSw; (try dsimp only at hSw); go_simp)
      all_goals with_reducible rfl
    try simp only [Act.put, List.setIfInBounds_toArray, List.set_cons_zero, List.set_cons_succ]
    refine wpAnyH_take (i := 19) (oi := { dst := some 63, op := Go.Op.pick (Go.Operand.tmp 47) (Go.Operand.tmp 62) (Go.Operand.const (Go.Value.bool false)), type := 4, pos := "law.go:143", after := #[{ on := 3, ground := Go.Ground.data }, { on := 18, ground := Go.Ground.data }], guard := none }) (v := ?_) rfl (by kernel_rfl) (by kernel_rfl) (by kernel_rfl) (fun _ _ _ h => h) (Or.inl ⟨by rfl, ?_⟩) hHeld ?_
    rotate_left
    · (intro w hSw; (try dsimp only at hSw); go_simp)
      all_goals with_reducible rfl
    try simp only [Act.put, List.setIfInBounds_toArray, List.set_cons_zero, List.set_cons_succ]
    refine wpAnyH_take (i := 20) (oi := { dst := some 64, op := Go.Op.move (Go.Operand.tmp 63), type := 4, pos := "law.go:143", after := #[{ on := 19, ground := Go.Ground.data }, { on := 17, ground := Go.Ground.chain }], guard := none }) (v := ?_) rfl (by kernel_rfl) (by kernel_rfl) (by kernel_rfl) (fun _ _ _ h => h) (Or.inl ⟨by rfl, ?_⟩) hHeld ?_
    rotate_left
    · (intro w hSw; (try dsimp only at hSw); go_simp)
      all_goals with_reducible rfl
    try simp only [Act.put, List.setIfInBounds_toArray, List.set_cons_zero, List.set_cons_succ]
    refine wpAnyH_take (i := 21) (oi := { dst := some 65, op := Go.Op.move (Go.Operand.tmp 3), type := 23, pos := "law.go:143", after := #[{ on := 20, ground := Go.Ground.guard }], guard := some (20, true) }) (v := ?_) rfl (by kernel_rfl) (by kernel_rfl) (by kernel_rfl) (fun _ _ _ h => h) (Or.inl ⟨by rfl, ?_⟩) hHeld ?_
    rotate_left
    · (intro w hSw; (try dsimp only at hSw); go_simp)
      all_goals with_reducible rfl
    try simp only [Act.put, List.setIfInBounds_toArray, List.set_cons_zero, List.set_cons_succ]
    refine wpAnyH_take (i := 22) (oi := { dst := some 66, op := Go.Op.load 43 (Go.Operand.tmp 4), type := 43, pos := "law.go:143", after := #[{ on := 20, ground := Go.Ground.guard }], guard := some (20, true) }) (v := ?_) rfl (by kernel_rfl) (by kernel_rfl) (by kernel_rfl) (fun _ _ _ h => h) (Or.inl ⟨by rfl, ?_⟩) hHeld ?_
    rotate_left
    · (intro w hSw; (try dsimp only at hSw); go_simp)
      all_goals with_reducible rfl
    try simp only [Act.put, List.setIfInBounds_toArray, List.set_cons_zero, List.set_cons_succ]
    refine wpAnyH_take (i := 24) (oi := { dst := some 68, op := Go.Op.load 43 (Go.Operand.tmp 4), type := 43, pos := "law.go:143", after := #[{ on := 20, ground := Go.Ground.guard }], guard := some (20, true) }) (v := ?_) rfl (by kernel_rfl) (by kernel_rfl) (by kernel_rfl) (fun _ _ _ h => h) (Or.inl ⟨by rfl, ?_⟩) hHeld ?_
    rotate_left
    · (intro w hSw; (try dsimp only at hSw); go_simp)
      all_goals with_reducible rfl
    try simp only [Act.put, List.setIfInBounds_toArray, List.set_cons_zero, List.set_cons_succ]
    refine wpAnyH_ready (rs := [23]) (by kernel_rfl) (by simp) ?_
    refine AllReadyH.cons (o := { dst := some 67, op := Go.Op.call { callee := Go.Callee.value (Go.Operand.func 40), args := #[Go.Operand.tmp 65, Go.Operand.tmp 66], argTypes := #[23, 43] }, type := 43, pos := "law.go:143", after := #[{ on := 21, ground := Go.Ground.data }, { on := 22, ground := Go.Ground.data }, { on := 20, ground := Go.Ground.chain }, { on := 20, ground := Go.Ground.guard }], guard := some (20, true) }) rfl (fun K hK => ?_) AllReadyH.nil
    go_simp
    go_at_call 40
    refine (hAp.out _ (hb.out.trans' hd)).mono ?_
    rintro e w20 ⟨⟨y1, HY1, rfl⟩, hg⟩
    have hA := hA.bel hg; have hB := hB.bel hg; have hC := hC.bel hg; have hd := hd.trans' hg; clear hg hAp; obtain rfl := HY1.out
    first | refine hK.out _ _ ?_ (fun hHeld => ?_) | (go_wp2_with fail; refine hK.out _ _ ?_ (fun hHeld => ?_))
    · (try dsimp only); exact ⟨hA.cells, hB.cells, hC.cells⟩
    clear hK K
    try simp only [Act.put, List.setIfInBounds_toArray, List.set_cons_zero, List.set_cons_succ]
    refine wpAnyH_ready (rs := [25]) (by kernel_rfl) (by simp) ?_
    refine AllReadyH.cons (o := { dst := some 69, op := Go.Op.call { callee := Go.Callee.value (Go.Operand.func 35), args := #[Go.Operand.tmp 67, Go.Operand.tmp 68], argTypes := #[43, 43] }, type := 4, pos := "law.go:143", after := #[{ on := 23, ground := Go.Ground.data }, { on := 24, ground := Go.Ground.data }, { on := 23, ground := Go.Ground.chain }, { on := 20, ground := Go.Ground.guard }], guard := some (20, true) }) rfl (fun K hK => ?_) AllReadyH.nil
    go_simp
    go_at_call 35
    refine (hU5.out _).mono ?_
    rintro e w20 ⟨rfl, hg⟩
    have hA := hA.bel hg; have hB := hB.bel hg; have hC := hC.bel hg; have hd := hd.trans' hg; clear hg hU5
    first | refine hK.out _ _ ?_ (fun hHeld => ?_) | (go_wp2_with fail; refine hK.out _ _ ?_ (fun hHeld => ?_))
    · (try dsimp only); exact ⟨hA.cells, hB.cells, hC.cells⟩
    clear hK K
    try simp only [Act.put, List.setIfInBounds_toArray, List.set_cons_zero, List.set_cons_succ]
    refine wpAnyH_take (i := 26) (oi := { dst := some 70, op := Go.Op.pick (Go.Operand.tmp 64) (Go.Operand.tmp 69) (Go.Operand.const (Go.Value.bool false)), type := 4, pos := "law.go:143", after := #[{ on := 20, ground := Go.Ground.data }, { on := 25, ground := Go.Ground.data }], guard := none }) (v := ?_) rfl (by kernel_rfl) (by kernel_rfl) (by kernel_rfl) (fun _ _ _ h => h) (Or.inl ⟨by rfl, ?_⟩) hHeld ?_
    rotate_left
    · (intro w hSw; (try dsimp only at hSw); go_simp)
      all_goals with_reducible rfl
    try simp only [Act.put, List.setIfInBounds_toArray, List.set_cons_zero, List.set_cons_succ]
    refine wpAnyH_take (i := 27) (oi := { dst := some 8, op := Go.Op.assign (Go.Operand.tmp 70), type := 4, pos := "law.go:143", after := #[{ on := 26, ground := Go.Ground.data }, { on := 25, ground := Go.Ground.chain }, { on := 0, ground := Go.Ground.phase }, { on := 1, ground := Go.Ground.phase }, { on := 2, ground := Go.Ground.phase }, { on := 3, ground := Go.Ground.phase }, { on := 4, ground := Go.Ground.phase }, { on := 5, ground := Go.Ground.phase }, { on := 6, ground := Go.Ground.phase }, { on := 7, ground := Go.Ground.phase }, { on := 8, ground := Go.Ground.phase }, { on := 9, ground := Go.Ground.phase }, { on := 10, ground := Go.Ground.phase }, { on := 11, ground := Go.Ground.phase }, { on := 12, ground := Go.Ground.phase }, { on := 13, ground := Go.Ground.phase }, { on := 14, ground := Go.Ground.phase }, { on := 15, ground := Go.Ground.phase }, { on := 16, ground := Go.Ground.phase }, { on := 17, ground := Go.Ground.phase }, { on := 18, ground := Go.Ground.phase }, { on := 19, ground := Go.Ground.phase }, { on := 20, ground := Go.Ground.phase }, { on := 21, ground := Go.Ground.phase }, { on := 22, ground := Go.Ground.phase }, { on := 23, ground := Go.Ground.phase }, { on := 24, ground := Go.Ground.phase }, { on := 25, ground := Go.Ground.phase }, { on := 26, ground := Go.Ground.phase }], guard := none }) (v := ?_) rfl (by kernel_rfl) (by kernel_rfl) (by kernel_rfl) (fun _ _ _ h => h) (Or.inl ⟨by rfl, ?_⟩) hHeld ?_
    rotate_left
    · (intro w hSw; (try dsimp only at hSw); go_simp)
      all_goals with_reducible rfl
    try simp only [Act.put, List.setIfInBounds_toArray, List.set_cons_zero, List.set_cons_succ]
    refine wpAnyH_done (by kernel_rfl) ?_ _
    all_goals go_wp2
    all_goals go_ret
    all_goals exact ⟨rfl, hb.out.trans' hd⟩
  rw [q2] at hU3
  rw [under_trans q1 q2] at hU4
  clear q1 q2
  go_enter Try.func9, Try.ntmps9
  go_wp2_with (fail)
  refine (lives5_any _).mono ?_
  rintro e w1 ⟨rfl, hg⟩
  have hA := hA.bel hg
  have hB := hB.bel hg
  have hC := hC.bel hg
  have hb := hb.trans' hg
  clear hg
  obtain ⟨c0, c1, c2, c3, c4, c5, c6, c7, c8, c9, c10⟩ := hA.cells
  go_wp2_with (fail)
  refine (hLa.out _).mono ?_
  rintro e w2 ⟨rfl, hg⟩
  have hA := hA.bel hg
  have hB := hB.bel hg
  have hC := hC.bel hg
  have hb := hb.trans' hg
  clear hg
  clear c0 c1 c2 c3 c4 c5 c6 c7 c8 c9 c10
  obtain ⟨c0, c1, c2, c3, c4, c5, c6, c7, c8, c9, c10⟩ := hB.cells
  go_wp2_with (fail)
  refine (hLb.out _).mono ?_
  rintro e w3 ⟨rfl, hg⟩
  have hA := hA.bel hg
  have hB := hB.bel hg
  have hC := hC.bel hg
  have hb := hb.trans' hg
  clear hg
  clear c0 c1 c2 c3 c4 c5 c6 c7 c8 c9 c10
  obtain ⟨c0, c1, c2, c3, c4, c5, c6, c7, c8, c9, c10⟩ := hC.cells
  go_wp2_with (fail)
  refine (hLc.out _).mono ?_
  rintro e w4 ⟨rfl, hg⟩
  have hA := hA.bel hg
  have hB := hB.bel hg
  have hC := hC.bel hg
  have hb := hb.trans' hg
  clear hg
  clear c0 c1 c2 c3 c4 c5 c6 c7 c8 c9 c10
  go_wp2_with (fail)
  refine (hLl.out _ hb).mono ?_
  rintro e w5 ⟨rfl, hg⟩
  have hA := hA.bel hg
  have hB := hB.bel hg
  have hC := hC.bel hg
  have hb := hb.trans' hg
  clear hg
  obtain ⟨c0, c1, c2, c3, c4, c5, c6, c7, c8, c9, c10⟩ := hA.cells
  go_wp2_with (fail)
  refine (hKa.out _).mono ?_
  rintro e w6 ⟨rfl, hg⟩
  have hA := hA.bel hg
  have hB := hB.bel hg
  have hC := hC.bel hg
  have hb := hb.trans' hg
  clear hg
  clear c0 c1 c2 c3 c4 c5 c6 c7 c8 c9 c10
  obtain ⟨c0, c1, c2, c3, c4, c5, c6, c7, c8, c9, c10⟩ := hB.cells
  go_wp2_with (fail)
  refine (hKb.out _).mono ?_
  rintro e w7 ⟨rfl, hg⟩
  have hA := hA.bel hg
  have hB := hB.bel hg
  have hC := hC.bel hg
  have hb := hb.trans' hg
  clear hg
  clear c0 c1 c2 c3 c4 c5 c6 c7 c8 c9 c10
  obtain ⟨c0, c1, c2, c3, c4, c5, c6, c7, c8, c9, c10⟩ := hC.cells
  go_wp2_with (fail)
  refine (hKc.out _).mono ?_
  rintro e w8 ⟨rfl, hg⟩
  have hA := hA.bel hg
  have hB := hB.bel hg
  have hC := hC.bel hg
  have hb := hb.trans' hg
  clear hg
  clear c0 c1 c2 c3 c4 c5 c6 c7 c8 c9 c10
  have hd : Bel w8 w8.drew := bel_drew' (Below.refl _ _)
  go_wp2
  obtain ⟨c0, c1, c2, c3, c4, c5, c6, c7, c8, c9, c10⟩ := hA.cells
  obtain ⟨d0, d1, d2, d3, d4, d5, d6, d7, d8, d9, d10⟩ := hB.cells
  obtain ⟨f0, f1, f2, f3, f4, f5, f6, f7, f8, f9, f10⟩ := hC.cells
  have hA := hA.drew
  have hB := hB.drew
  have hC := hC.drew
  have hb := Lib.hid hb
  go_region_held3 (fun w' => (w'.cell? ⟨w.heap.size, 0, none⟩ = some (.string a.says) ∧ w'.cell? ⟨w.heap.size, 1, none⟩ = some (.string a.pred) ∧ w'.cell? ⟨w.heap.size, 2, none⟩ = some (.int .i64 a.n) ∧ w'.cell? ⟨w.heap.size, 3, none⟩ = some (.bool a.t0.v) ∧ w'.cell? ⟨w.heap.size, 4, none⟩ = some (.string a.t0.name) ∧ w'.cell? ⟨w.heap.size, 5, none⟩ = some (.bool a.t1.v) ∧ w'.cell? ⟨w.heap.size, 6, none⟩ = some (.string a.t1.name) ∧ w'.cell? ⟨w.heap.size, 7, none⟩ = some (.bool a.t2.v) ∧ w'.cell? ⟨w.heap.size, 8, none⟩ = some (.string a.t2.name) ∧ w'.cell? ⟨w.heap.size, 9, none⟩ = some (.bool a.t3.v) ∧ w'.cell? ⟨w.heap.size, 10, none⟩ = some (.string a.t3.name)) ∧ (w'.cell? ⟨w.heap.size + 1, 0, none⟩ = some (.string b.says) ∧ w'.cell? ⟨w.heap.size + 1, 1, none⟩ = some (.string b.pred) ∧ w'.cell? ⟨w.heap.size + 1, 2, none⟩ = some (.int .i64 b.n) ∧ w'.cell? ⟨w.heap.size + 1, 3, none⟩ = some (.bool b.t0.v) ∧ w'.cell? ⟨w.heap.size + 1, 4, none⟩ = some (.string b.t0.name) ∧ w'.cell? ⟨w.heap.size + 1, 5, none⟩ = some (.bool b.t1.v) ∧ w'.cell? ⟨w.heap.size + 1, 6, none⟩ = some (.string b.t1.name) ∧ w'.cell? ⟨w.heap.size + 1, 7, none⟩ = some (.bool b.t2.v) ∧ w'.cell? ⟨w.heap.size + 1, 8, none⟩ = some (.string b.t2.name) ∧ w'.cell? ⟨w.heap.size + 1, 9, none⟩ = some (.bool b.t3.v) ∧ w'.cell? ⟨w.heap.size + 1, 10, none⟩ = some (.string b.t3.name)) ∧ (w'.cell? ⟨w.heap.size + 2, 0, none⟩ = some (.string c.says) ∧ w'.cell? ⟨w.heap.size + 2, 1, none⟩ = some (.string c.pred) ∧ w'.cell? ⟨w.heap.size + 2, 2, none⟩ = some (.int .i64 c.n) ∧ w'.cell? ⟨w.heap.size + 2, 3, none⟩ = some (.bool c.t0.v) ∧ w'.cell? ⟨w.heap.size + 2, 4, none⟩ = some (.string c.t0.name) ∧ w'.cell? ⟨w.heap.size + 2, 5, none⟩ = some (.bool c.t1.v) ∧ w'.cell? ⟨w.heap.size + 2, 6, none⟩ = some (.string c.t1.name) ∧ w'.cell? ⟨w.heap.size + 2, 7, none⟩ = some (.bool c.t2.v) ∧ w'.cell? ⟨w.heap.size + 2, 8, none⟩ = some (.string c.t2.name) ∧ w'.cell? ⟨w.heap.size + 2, 9, none⟩ = some (.bool c.t3.v) ∧ w'.cell? ⟨w.heap.size + 2, 10, none⟩ = some (.string c.t3.name))) (first | exact ⟨hA.cells, hB.cells, hC.cells⟩ | go_keep | trivial)
    (first | (go_at_call 35; refine (hU1.out _).mono ?_; rintro e w20 ⟨rfl, hg⟩; have hA := hA.bel hg; have hB := hB.bel hg; have hC := hC.bel hg; have hd := hd.trans' hg; clear hg hU1) | (go_at_call 35; refine (hU2.out _).mono ?_; rintro e w20 ⟨rfl, hg⟩; have hA := hA.bel hg; have hB := hB.bel hg; have hC := hC.bel hg; have hd := hd.trans' hg; clear hg hU2) | (go_at_call 35; refine (hU3.out _).mono ?_; rintro e w20 ⟨rfl, hg⟩; have hA := hA.bel hg; have hB := hB.bel hg; have hC := hC.bel hg; have hd := hd.trans' hg; clear hg hU3) | (go_at_call 35; refine (hU4.out _).mono ?_; rintro e w20 ⟨rfl, hg⟩; have hA := hA.bel hg; have hB := hB.bel hg; have hC := hC.bel hg; have hd := hd.trans' hg; clear hg hU4) | (go_at_call 40; refine (hAp.out _ (hb.out.trans' hd)).mono ?_; rintro e w20 ⟨⟨y1, HY1, rfl⟩, hg⟩; have hA := hA.bel hg; have hB := hB.bel hg; have hC := hC.bel hg; have hd := hd.trans' hg; clear hg hAp; obtain rfl := HY1.out) | (go_at_call 35; refine (hU5.out _).mono ?_; rintro e w20 ⟨rfl, hg⟩; have hA := hA.bel hg; have hB := hB.bel hg; have hC := hC.bel hg; have hd := hd.trans' hg; clear hg hU5))
  all_goals go_wp2
  all_goals go_ret
  all_goals exact ⟨rfl, hb.out.trans' hd⟩
end Go.Proofs.Ytlbollmmomheoaa
