/-
  The law UnifyMeets for every input. Conditions: what came in lies as its parameters' types say.
-/
import Derived.Test.YtkcnbdlhggoojaaDoorUnS
import Derived.Test.YtkcnbdlhggoojaaDoorUnL
import Derived.Test.YtkcnbdlhggoojaaDoorTmM
namespace Go.Proofs.YtkcnbdlhggoojaaDoor
open Go.RowKit

set_option maxRecDepth 20000 in
set_option maxHeartbeats 16000000 in
theorem lawUnifyMeets (a b c : AtomD) (w : World) (hak : AtomOk a) (hbk : AtomOk b) (hck : AtomOk c) :
    Calls Tryd.prog 5 #[.agg #[.string a.says, .string a.pred, .int .i64 a.n, .bool a.t0.v, .string a.t0.name, .bool a.t1.v, .string a.t1.name, .bool a.t2.v, .string a.t2.name, .bool a.t3.v, .string a.t3.name], .agg #[.string b.says, .string b.pred, .int .i64 b.n, .bool b.t0.v, .string b.t0.name, .bool b.t1.v, .string b.t1.name, .bool b.t2.v, .string b.t2.name, .bool b.t3.v, .string b.t3.name], .agg #[.string c.says, .string c.pred, .int .i64 c.n, .bool c.t0.v, .string c.t0.name, .bool c.t1.v, .string c.t1.name, .bool c.t2.v, .string c.t2.name, .bool c.t3.v, .string c.t3.name]] w fun e w' => e = .returned (.bool true) ∧ Bel w w' := by
  have hA := AtomAt.new w a
  have hA := hA.bel (bel_alloc (w.alloc (.cells #[.string a.says, .string a.pred, .int .i64 a.n, .bool a.t0.v, .string a.t0.name, .bool a.t1.v, .string a.t1.name, .bool a.t2.v, .string a.t2.name, .bool a.t3.v, .string a.t3.name] 30)) (.cells #[.string b.says, .string b.pred, .int .i64 b.n, .bool b.t0.v, .string b.t0.name, .bool b.t1.v, .string b.t1.name, .bool b.t2.v, .string b.t2.name, .bool b.t3.v, .string b.t3.name] 30))
  have hA := hA.bel (bel_alloc ((w.alloc (.cells #[.string a.says, .string a.pred, .int .i64 a.n, .bool a.t0.v, .string a.t0.name, .bool a.t1.v, .string a.t1.name, .bool a.t2.v, .string a.t2.name, .bool a.t3.v, .string a.t3.name] 30)).alloc (.cells #[.string b.says, .string b.pred, .int .i64 b.n, .bool b.t0.v, .string b.t0.name, .bool b.t1.v, .string b.t1.name, .bool b.t2.v, .string b.t2.name, .bool b.t3.v, .string b.t3.name] 30)) (.cells #[.string c.says, .string c.pred, .int .i64 c.n, .bool c.t0.v, .string c.t0.name, .bool c.t1.v, .string c.t1.name, .bool c.t2.v, .string c.t2.name, .bool c.t3.v, .string c.t3.name] 30))
  have hB := AtomAt.new (w.alloc (.cells #[.string a.says, .string a.pred, .int .i64 a.n, .bool a.t0.v, .string a.t0.name, .bool a.t1.v, .string a.t1.name, .bool a.t2.v, .string a.t2.name, .bool a.t3.v, .string a.t3.name] 30)) b
  rw [show (w.alloc (.cells #[.string a.says, .string a.pred, .int .i64 a.n, .bool a.t0.v, .string a.t0.name, .bool a.t1.v, .string a.t1.name, .bool a.t2.v, .string a.t2.name, .bool a.t3.v, .string a.t3.name] 30)).heap.size = w.heap.size + 1 by simp] at hB
  have hB := hB.bel (bel_alloc ((w.alloc (.cells #[.string a.says, .string a.pred, .int .i64 a.n, .bool a.t0.v, .string a.t0.name, .bool a.t1.v, .string a.t1.name, .bool a.t2.v, .string a.t2.name, .bool a.t3.v, .string a.t3.name] 30)).alloc (.cells #[.string b.says, .string b.pred, .int .i64 b.n, .bool b.t0.v, .string b.t0.name, .bool b.t1.v, .string b.t1.name, .bool b.t2.v, .string b.t2.name, .bool b.t3.v, .string b.t3.name] 30)) (.cells #[.string c.says, .string c.pred, .int .i64 c.n, .bool c.t0.v, .string c.t0.name, .bool c.t1.v, .string c.t1.name, .bool c.t2.v, .string c.t2.name, .bool c.t3.v, .string c.t3.name] 30))
  have hC := AtomAt.new ((w.alloc (.cells #[.string a.says, .string a.pred, .int .i64 a.n, .bool a.t0.v, .string a.t0.name, .bool a.t1.v, .string a.t1.name, .bool a.t2.v, .string a.t2.name, .bool a.t3.v, .string a.t3.name] 30)).alloc (.cells #[.string b.says, .string b.pred, .int .i64 b.n, .bool b.t0.v, .string b.t0.name, .bool b.t1.v, .string b.t1.name, .bool b.t2.v, .string b.t2.name, .bool b.t3.v, .string b.t3.name] 30)) c
  rw [show ((w.alloc (.cells #[.string a.says, .string a.pred, .int .i64 a.n, .bool a.t0.v, .string a.t0.name, .bool a.t1.v, .string a.t1.name, .bool a.t2.v, .string a.t2.name, .bool a.t3.v, .string a.t3.name] 30)).alloc (.cells #[.string b.says, .string b.pred, .int .i64 b.n, .bool b.t0.v, .string b.t0.name, .bool b.t1.v, .string b.t1.name, .bool b.t2.v, .string b.t2.name, .bool b.t3.v, .string b.t3.name] 30)).heap.size = w.heap.size + 2 by simp] at hC
  have hb := ((bel_alloc w (.cells #[.string a.says, .string a.pred, .int .i64 a.n, .bool a.t0.v, .string a.t0.name, .bool a.t1.v, .string a.t1.name, .bool a.t2.v, .string a.t2.name, .bool a.t3.v, .string a.t3.name] 30)).trans' (bel_alloc (w.alloc (.cells #[.string a.says, .string a.pred, .int .i64 a.n, .bool a.t0.v, .string a.t0.name, .bool a.t1.v, .string a.t1.name, .bool a.t2.v, .string a.t2.name, .bool a.t3.v, .string a.t3.name] 30)) (.cells #[.string b.says, .string b.pred, .int .i64 b.n, .bool b.t0.v, .string b.t0.name, .bool b.t1.v, .string b.t1.name, .bool b.t2.v, .string b.t2.name, .bool b.t3.v, .string b.t3.name] 30))).trans' (bel_alloc ((w.alloc (.cells #[.string a.says, .string a.pred, .int .i64 a.n, .bool a.t0.v, .string a.t0.name, .bool a.t1.v, .string a.t1.name, .bool a.t2.v, .string a.t2.name, .bool a.t3.v, .string a.t3.name] 30)).alloc (.cells #[.string b.says, .string b.pred, .int .i64 b.n, .bool b.t0.v, .string b.t0.name, .bool b.t1.v, .string b.t1.name, .bool b.t2.v, .string b.t2.name, .bool b.t3.v, .string b.t3.name] 30)) (.cells #[.string c.says, .string c.pred, .int .i64 c.n, .bool c.t0.v, .string c.t0.name, .bool c.t1.v, .string c.t1.name, .bool c.t2.v, .string c.t2.name, .bool c.t3.v, .string c.t3.name] 30))
  have hLa := Lib.hid (fun W => light_any a W hak)
  have hKa := Lib.hid (fun W => rCheck_any a W hak)
  have hLb := Lib.hid (fun W => light_any b W hbk)
  have hKb := Lib.hid (fun W => rCheck_any b W hbk)
  have hLc := Lib.hid (fun W => light_any c W hck)
  have hKc := Lib.hid (fun W => rCheck_any c W hck)
  cases q0 : lightA a
  case false =>
    rw [q0] at hLa
    clear q0
    go_enter Tryd.func5, Tryd.ntmps5
    go_wp2_with (fail)
    refine (lives6_any _).mono ?_
    rintro e w1 ⟨rfl, hg⟩
    have hA := hA.bel hg
    have hB := hB.bel hg
    have hC := hC.bel hg
    have hb := hb.trans' hg
    clear hg
    obtain ⟨c0, c1, c2, c3, c4, c5, c6, c7, c8, c9, c10⟩ := hA.cells
    go_wp2_with (fail)
    refine (hLa.out _).mono ?_
    rintro e w2 ⟨rfl, hg⟩
    have hA := hA.bel hg
    have hB := hB.bel hg
    have hC := hC.bel hg
    have hb := hb.trans' hg
    clear hg
    clear c0 c1 c2 c3 c4 c5 c6 c7 c8 c9 c10
    obtain ⟨c0, c1, c2, c3, c4, c5, c6, c7, c8, c9, c10⟩ := hB.cells
    go_wp2
    go_ret
    exact ⟨rfl, hb⟩
  rw [q0] at hLa
  cases q1 : lightA b
  case false =>
    rw [q1] at hLb
    clear q1 q0
    go_enter Tryd.func5, Tryd.ntmps5
    go_wp2_with (fail)
    refine (lives6_any _).mono ?_
    rintro e w1 ⟨rfl, hg⟩
    have hA := hA.bel hg
    have hB := hB.bel hg
    have hC := hC.bel hg
    have hb := hb.trans' hg
    clear hg
    obtain ⟨c0, c1, c2, c3, c4, c5, c6, c7, c8, c9, c10⟩ := hA.cells
    go_wp2_with (fail)
    refine (hLa.out _).mono ?_
    rintro e w2 ⟨rfl, hg⟩
    have hA := hA.bel hg
    have hB := hB.bel hg
    have hC := hC.bel hg
    have hb := hb.trans' hg
    clear hg
    clear c0 c1 c2 c3 c4 c5 c6 c7 c8 c9 c10
    obtain ⟨c0, c1, c2, c3, c4, c5, c6, c7, c8, c9, c10⟩ := hB.cells
    go_wp2_with (fail)
    refine (hLb.out _).mono ?_
    rintro e w3 ⟨rfl, hg⟩
    have hA := hA.bel hg
    have hB := hB.bel hg
    have hC := hC.bel hg
    have hb := hb.trans' hg
    clear hg
    clear c0 c1 c2 c3 c4 c5 c6 c7 c8 c9 c10
    obtain ⟨c0, c1, c2, c3, c4, c5, c6, c7, c8, c9, c10⟩ := hC.cells
    go_wp2
    go_ret
    exact ⟨rfl, hb⟩
  rw [q1] at hLb
  cases q2 : lightA c
  case false =>
    rw [q2] at hLc
    clear q2 q0 q1
    go_enter Tryd.func5, Tryd.ntmps5
    go_wp2_with (fail)
    refine (lives6_any _).mono ?_
    rintro e w1 ⟨rfl, hg⟩
    have hA := hA.bel hg
    have hB := hB.bel hg
    have hC := hC.bel hg
    have hb := hb.trans' hg
    clear hg
    obtain ⟨c0, c1, c2, c3, c4, c5, c6, c7, c8, c9, c10⟩ := hA.cells
    go_wp2_with (fail)
    refine (hLa.out _).mono ?_
    rintro e w2 ⟨rfl, hg⟩
    have hA := hA.bel hg
    have hB := hB.bel hg
    have hC := hC.bel hg
    have hb := hb.trans' hg
    clear hg
    clear c0 c1 c2 c3 c4 c5 c6 c7 c8 c9 c10
    obtain ⟨c0, c1, c2, c3, c4, c5, c6, c7, c8, c9, c10⟩ := hB.cells
    go_wp2_with (fail)
    refine (hLb.out _).mono ?_
    rintro e w3 ⟨rfl, hg⟩
    have hA := hA.bel hg
    have hB := hB.bel hg
    have hC := hC.bel hg
    have hb := hb.trans' hg
    clear hg
    clear c0 c1 c2 c3 c4 c5 c6 c7 c8 c9 c10
    obtain ⟨c0, c1, c2, c3, c4, c5, c6, c7, c8, c9, c10⟩ := hC.cells
    go_wp2_with (fail)
    refine (hLc.out _).mono ?_
    rintro e w4 ⟨rfl, hg⟩
    have hA := hA.bel hg
    have hB := hB.bel hg
    have hC := hC.bel hg
    have hb := hb.trans' hg
    clear hg
    clear c0 c1 c2 c3 c4 c5 c6 c7 c8 c9 c10
    obtain ⟨c0, c1, c2, c3, c4, c5, c6, c7, c8, c9, c10⟩ := hA.cells
    go_wp2
    go_ret
    exact ⟨rfl, hb⟩
  rw [q2] at hLc
  by_cases q3 : checkD a = 0
  case neg =>
    have hz : (checkD a != 0) = true := by simpa using q3
    have hz2 : (checkD a == 0) = false := by simpa using q3
    clear q0 q1 q2 q3
    go_enter Tryd.func5, Tryd.ntmps5
    go_wp2_with (fail)
    refine (lives6_any _).mono ?_
    rintro e w1 ⟨rfl, hg⟩
    have hA := hA.bel hg
    have hB := hB.bel hg
    have hC := hC.bel hg
    have hb := hb.trans' hg
    clear hg
    obtain ⟨c0, c1, c2, c3, c4, c5, c6, c7, c8, c9, c10⟩ := hA.cells
    go_wp2_with (fail)
    refine (hLa.out _).mono ?_
    rintro e w2 ⟨rfl, hg⟩
    have hA := hA.bel hg
    have hB := hB.bel hg
    have hC := hC.bel hg
    have hb := hb.trans' hg
    clear hg
    clear c0 c1 c2 c3 c4 c5 c6 c7 c8 c9 c10
    obtain ⟨c0, c1, c2, c3, c4, c5, c6, c7, c8, c9, c10⟩ := hB.cells
    go_wp2_with (fail)
    refine (hLb.out _).mono ?_
    rintro e w3 ⟨rfl, hg⟩
    have hA := hA.bel hg
    have hB := hB.bel hg
    have hC := hC.bel hg
    have hb := hb.trans' hg
    clear hg
    clear c0 c1 c2 c3 c4 c5 c6 c7 c8 c9 c10
    obtain ⟨c0, c1, c2, c3, c4, c5, c6, c7, c8, c9, c10⟩ := hC.cells
    go_wp2_with (fail)
    refine (hLc.out _).mono ?_
    rintro e w4 ⟨rfl, hg⟩
    have hA := hA.bel hg
    have hB := hB.bel hg
    have hC := hC.bel hg
    have hb := hb.trans' hg
    clear hg
    clear c0 c1 c2 c3 c4 c5 c6 c7 c8 c9 c10
    obtain ⟨c0, c1, c2, c3, c4, c5, c6, c7, c8, c9, c10⟩ := hA.cells
    go_wp2_with (fail)
    refine (hKa.out _).mono ?_
    rintro e w5 ⟨rfl, hg⟩
    have hA := hA.bel hg
    have hB := hB.bel hg
    have hC := hC.bel hg
    have hb := hb.trans' hg
    clear hg
    clear c0 c1 c2 c3 c4 c5 c6 c7 c8 c9 c10
    obtain ⟨c0, c1, c2, c3, c4, c5, c6, c7, c8, c9, c10⟩ := hB.cells
    go_wp2
    go_ret
    exact ⟨rfl, hb⟩
  rw [q3] at hKa
  by_cases q4 : checkD b = 0
  case neg =>
    have hz : (checkD b != 0) = true := by simpa using q4
    have hz2 : (checkD b == 0) = false := by simpa using q4
    clear q0 q1 q2 q3 q4
    go_enter Tryd.func5, Tryd.ntmps5
    go_wp2_with (fail)
    refine (lives6_any _).mono ?_
    rintro e w1 ⟨rfl, hg⟩
    have hA := hA.bel hg
    have hB := hB.bel hg
    have hC := hC.bel hg
    have hb := hb.trans' hg
    clear hg
    obtain ⟨c0, c1, c2, c3, c4, c5, c6, c7, c8, c9, c10⟩ := hA.cells
    go_wp2_with (fail)
    refine (hLa.out _).mono ?_
    rintro e w2 ⟨rfl, hg⟩
    have hA := hA.bel hg
    have hB := hB.bel hg
    have hC := hC.bel hg
    have hb := hb.trans' hg
    clear hg
    clear c0 c1 c2 c3 c4 c5 c6 c7 c8 c9 c10
    obtain ⟨c0, c1, c2, c3, c4, c5, c6, c7, c8, c9, c10⟩ := hB.cells
    go_wp2_with (fail)
    refine (hLb.out _).mono ?_
    rintro e w3 ⟨rfl, hg⟩
    have hA := hA.bel hg
    have hB := hB.bel hg
    have hC := hC.bel hg
    have hb := hb.trans' hg
    clear hg
    clear c0 c1 c2 c3 c4 c5 c6 c7 c8 c9 c10
    obtain ⟨c0, c1, c2, c3, c4, c5, c6, c7, c8, c9, c10⟩ := hC.cells
    go_wp2_with (fail)
    refine (hLc.out _).mono ?_
    rintro e w4 ⟨rfl, hg⟩
    have hA := hA.bel hg
    have hB := hB.bel hg
    have hC := hC.bel hg
    have hb := hb.trans' hg
    clear hg
    clear c0 c1 c2 c3 c4 c5 c6 c7 c8 c9 c10
    obtain ⟨c0, c1, c2, c3, c4, c5, c6, c7, c8, c9, c10⟩ := hA.cells
    go_wp2_with (fail)
    refine (hKa.out _).mono ?_
    rintro e w5 ⟨rfl, hg⟩
    have hA := hA.bel hg
    have hB := hB.bel hg
    have hC := hC.bel hg
    have hb := hb.trans' hg
    clear hg
    clear c0 c1 c2 c3 c4 c5 c6 c7 c8 c9 c10
    obtain ⟨c0, c1, c2, c3, c4, c5, c6, c7, c8, c9, c10⟩ := hB.cells
    go_wp2_with (fail)
    refine (hKb.out _).mono ?_
    rintro e w6 ⟨rfl, hg⟩
    have hA := hA.bel hg
    have hB := hB.bel hg
    have hC := hC.bel hg
    have hb := hb.trans' hg
    clear hg
    clear c0 c1 c2 c3 c4 c5 c6 c7 c8 c9 c10
    obtain ⟨c0, c1, c2, c3, c4, c5, c6, c7, c8, c9, c10⟩ := hC.cells
    go_wp2
    go_ret
    exact ⟨rfl, hb⟩
  rw [q4] at hKb
  by_cases q5 : checkD c = 0
  case neg =>
    have hz : (checkD c != 0) = true := by simpa using q5
    have hz2 : (checkD c == 0) = false := by simpa using q5
    clear q0 q1 q2 q3 q4 q5
    go_enter Tryd.func5, Tryd.ntmps5
    go_wp2_with (fail)
    refine (lives6_any _).mono ?_
    rintro e w1 ⟨rfl, hg⟩
    have hA := hA.bel hg
    have hB := hB.bel hg
    have hC := hC.bel hg
    have hb := hb.trans' hg
    clear hg
    obtain ⟨c0, c1, c2, c3, c4, c5, c6, c7, c8, c9, c10⟩ := hA.cells
    go_wp2_with (fail)
    refine (hLa.out _).mono ?_
    rintro e w2 ⟨rfl, hg⟩
    have hA := hA.bel hg
    have hB := hB.bel hg
    have hC := hC.bel hg
    have hb := hb.trans' hg
    clear hg
    clear c0 c1 c2 c3 c4 c5 c6 c7 c8 c9 c10
    obtain ⟨c0, c1, c2, c3, c4, c5, c6, c7, c8, c9, c10⟩ := hB.cells
    go_wp2_with (fail)
    refine (hLb.out _).mono ?_
    rintro e w3 ⟨rfl, hg⟩
    have hA := hA.bel hg
    have hB := hB.bel hg
    have hC := hC.bel hg
    have hb := hb.trans' hg
    clear hg
    clear c0 c1 c2 c3 c4 c5 c6 c7 c8 c9 c10
    obtain ⟨c0, c1, c2, c3, c4, c5, c6, c7, c8, c9, c10⟩ := hC.cells
    go_wp2_with (fail)
    refine (hLc.out _).mono ?_
    rintro e w4 ⟨rfl, hg⟩
    have hA := hA.bel hg
    have hB := hB.bel hg
    have hC := hC.bel hg
    have hb := hb.trans' hg
    clear hg
    clear c0 c1 c2 c3 c4 c5 c6 c7 c8 c9 c10
    obtain ⟨c0, c1, c2, c3, c4, c5, c6, c7, c8, c9, c10⟩ := hA.cells
    go_wp2_with (fail)
    refine (hKa.out _).mono ?_
    rintro e w5 ⟨rfl, hg⟩
    have hA := hA.bel hg
    have hB := hB.bel hg
    have hC := hC.bel hg
    have hb := hb.trans' hg
    clear hg
    clear c0 c1 c2 c3 c4 c5 c6 c7 c8 c9 c10
    obtain ⟨c0, c1, c2, c3, c4, c5, c6, c7, c8, c9, c10⟩ := hB.cells
    go_wp2_with (fail)
    refine (hKb.out _).mono ?_
    rintro e w6 ⟨rfl, hg⟩
    have hA := hA.bel hg
    have hB := hB.bel hg
    have hC := hC.bel hg
    have hb := hb.trans' hg
    clear hg
    clear c0 c1 c2 c3 c4 c5 c6 c7 c8 c9 c10
    obtain ⟨c0, c1, c2, c3, c4, c5, c6, c7, c8, c9, c10⟩ := hC.cells
    go_wp2_with (fail)
    refine (hKc.out _).mono ?_
    rintro e w7 ⟨rfl, hg⟩
    have hA := hA.bel hg
    have hB := hB.bel hg
    have hC := hC.bel hg
    have hb := hb.trans' hg
    clear hg
    clear c0 c1 c2 c3 c4 c5 c6 c7 c8 c9 c10
    obtain ⟨c0, c1, c2, c3, c4, c5, c6, c7, c8, c9, c10⟩ := hA.cells
    go_wp2
    go_ret
    exact ⟨rfl, hb⟩
  rw [q5] at hKc
  have HFA := Lib.hid (form_of q3)
  have HFB := Lib.hid (form_ren q4 1)
  have HAP := Lib.hid (ren_apart (b := b) q3 1)
  have HMS := Lib.hid (meet_self (form_of q3))
  have hRn := Lib.hid (fun W => (show Calls Tryd.prog 10 #[.agg #[.string b.says, .string b.pred, .int .i64 b.n, .bool b.t0.v, .string b.t0.name, .bool b.t1.v, .string b.t1.name, .bool b.t2.v, .string b.t2.name, .bool b.t3.v, .string b.t3.name], .int .i64 1] W _ from Rename_any b 1 W (by omega) (itoa_small W 1 (by omega)) (AtomOk.sm q1).args))
  have hM1 := Lib.hid (fun W => Meet_any a a W)
  have hGc := Lib.hid (fun W => rGround_any c W)
  clear q0 q1 q2 q3 q4 q5
  go_enter Tryd.func5, Tryd.ntmps5
  go_wp2_with (fail)
  refine (lives6_any _).mono ?_
  rintro e w1 ⟨rfl, hg⟩
  have hA := hA.bel hg
  have hB := hB.bel hg
  have hC := hC.bel hg
  have hb := hb.trans' hg
  clear hg
  obtain ⟨c0, c1, c2, c3, c4, c5, c6, c7, c8, c9, c10⟩ := hA.cells
  go_wp2_with (fail)
  refine (hLa.out _).mono ?_
  rintro e w2 ⟨rfl, hg⟩
  have hA := hA.bel hg
  have hB := hB.bel hg
  have hC := hC.bel hg
  have hb := hb.trans' hg
  clear hg
  clear c0 c1 c2 c3 c4 c5 c6 c7 c8 c9 c10
  obtain ⟨c0, c1, c2, c3, c4, c5, c6, c7, c8, c9, c10⟩ := hB.cells
  go_wp2_with (fail)
  refine (hLb.out _).mono ?_
  rintro e w3 ⟨rfl, hg⟩
  have hA := hA.bel hg
  have hB := hB.bel hg
  have hC := hC.bel hg
  have hb := hb.trans' hg
  clear hg
  clear c0 c1 c2 c3 c4 c5 c6 c7 c8 c9 c10
  obtain ⟨c0, c1, c2, c3, c4, c5, c6, c7, c8, c9, c10⟩ := hC.cells
  go_wp2_with (fail)
  refine (hLc.out _).mono ?_
  rintro e w4 ⟨rfl, hg⟩
  have hA := hA.bel hg
  have hB := hB.bel hg
  have hC := hC.bel hg
  have hb := hb.trans' hg
  clear hg
  clear c0 c1 c2 c3 c4 c5 c6 c7 c8 c9 c10
  obtain ⟨c0, c1, c2, c3, c4, c5, c6, c7, c8, c9, c10⟩ := hA.cells
  go_wp2_with (fail)
  refine (hKa.out _).mono ?_
  rintro e w5 ⟨rfl, hg⟩
  have hA := hA.bel hg
  have hB := hB.bel hg
  have hC := hC.bel hg
  have hb := hb.trans' hg
  clear hg
  clear c0 c1 c2 c3 c4 c5 c6 c7 c8 c9 c10
  obtain ⟨c0, c1, c2, c3, c4, c5, c6, c7, c8, c9, c10⟩ := hB.cells
  go_wp2_with (fail)
  refine (hKb.out _).mono ?_
  rintro e w6 ⟨rfl, hg⟩
  have hA := hA.bel hg
  have hB := hB.bel hg
  have hC := hC.bel hg
  have hb := hb.trans' hg
  clear hg
  clear c0 c1 c2 c3 c4 c5 c6 c7 c8 c9 c10
  obtain ⟨c0, c1, c2, c3, c4, c5, c6, c7, c8, c9, c10⟩ := hC.cells
  go_wp2_with (fail)
  refine (hKc.out _).mono ?_
  rintro e w7 ⟨rfl, hg⟩
  have hA := hA.bel hg
  have hB := hB.bel hg
  have hC := hC.bel hg
  have hb := hb.trans' hg
  clear hg
  clear c0 c1 c2 c3 c4 c5 c6 c7 c8 c9 c10
  obtain ⟨c0, c1, c2, c3, c4, c5, c6, c7, c8, c9, c10⟩ := hA.cells
  go_wp2_with (fail)
  refine (hM1.out _).mono ?_
  rintro e w20 ⟨⟨q, is, HE, rfl⟩, hg⟩
  obtain ⟨hqa, hia⟩ := Prod.mk.inj (HMS.out.symm.trans HE.out.symm)
  subst hqa hia
  have hg := hg.trans' (bel_alloc w20 (.cells #[.string a.says, .string a.pred, .int .i64 a.n, .bool a.t0.v, .string a.t0.name, .bool a.t1.v, .string a.t1.name, .bool a.t2.v, .string a.t2.name, .bool a.t3.v, .string a.t3.name] 30))
  clear c0 c1 c2 c3 c4 c5 c6 c7 c8 c9 c10
  have hA := hA.bel hg
  have hB := hB.bel hg
  have hC := hC.bel hg
  have hb := hb.trans' hg
  clear hg hLa hLb hLc hKa hKb hKc hM1
  have hqe : eqA a a = true := (eqA_iff _ _).2 rfl
  have hqn := neq_atom a a
  rw [hqe] at hqn
  clear hqe
  obtain ⟨c0, c1, c2, c3, c4, c5, c6, c7, c8, c9, c10⟩ := hA.cells
  obtain ⟨d0, d1, d2, d3, d4, d5, d6, d7, d8, d9, d10⟩ := hB.cells
  go_wp2_with (fail)
  refine (hRn.out _).mono ?_
  rintro e w21 ⟨⟨b2, HB2, rfl⟩, hg⟩
  clear c0 c1 c2 c3 c4 c5 c6 c7 c8 c9 c10
  clear d0 d1 d2 d3 d4 d5 d6 d7 d8 d9 d10
  have hA := hA.bel hg
  have hB := hB.bel hg
  have hC := hC.bel hg
  have hb := hb.trans' hg
  clear hg hRn hqn
  have hM2 := Lib.hid (fun W => Meet_any a b2 W)
  have hM3 := Lib.hid (fun W => Meet_any b2 a W)
  go_wp2_with ((with_reducible refine wpList_store_atom ?_ (.tmp 4) (.tmp 57) ?_ (w.heap.size + 1) b2 ?_ ?_ hB ?_); rfl; rfl; rfl; rfl; intro w22 hB2 hb3 ho3; have hA := (ho3 _ (by omega)).trans hA; have hC := (ho3 _ (by omega)).trans hC; have hb := Below.trans hb (hb3.mono (Nat.le_succ _)); obtain ⟨c0, c1, c2, c3, c4, c5, c6, c7, c8, c9, c10⟩ := AtomAt.cells hA; obtain ⟨d0, d1, d2, d3, d4, d5, d6, d7, d8, d9, d10⟩ := hB2.cells; clear hB hb3 ho3)
  have hb : Bel w w22 := hb
  have hA : AtomAt w22 w.heap.size a := hA
  have hC : AtomAt w22 (w.heap.size + 2) c := hC
  refine (hM2.out _).mono ?_
  rintro e w23 ⟨⟨m, ok, HE2, rfl⟩, hg⟩
  have hg := hg.trans' (bel_alloc w23 (.cells #[.string m.says, .string m.pred, .int .i64 m.n, .bool m.t0.v, .string m.t0.name, .bool m.t1.v, .string m.t1.name, .bool m.t2.v, .string m.t2.name, .bool m.t3.v, .string m.t3.name] 30))
  have hM : AtomAt (w23.alloc (.cells #[.string m.says, .string m.pred, .int .i64 m.n, .bool m.t0.v, .string m.t0.name, .bool m.t1.v, .string m.t1.name, .bool m.t2.v, .string m.t2.name, .bool m.t3.v, .string m.t3.name] 30)) w23.heap.size m := AtomAt.new w23 m
  clear c0 c1 c2 c3 c4 c5 c6 c7 c8 c9 c10
  clear d0 d1 d2 d3 d4 d5 d6 d7 d8 d9 d10
  have hA := hA.bel hg
  have hB2 := hB2.bel hg
  have hC := hC.bel hg
  have hb := hb.trans' hg
  clear hg hM2
  obtain ⟨c0, c1, c2, c3, c4, c5, c6, c7, c8, c9, c10⟩ := hB2.cells
  obtain ⟨d0, d1, d2, d3, d4, d5, d6, d7, d8, d9, d10⟩ := hA.cells
  go_wp2_with (fail)
  refine (hM3.out _).mono ?_
  rintro e w24 ⟨⟨n, also, HE3, rfl⟩, hg⟩
  have HFB2 : RowKit.Hid (Form b2) := Lib.hid (by rw [HB2.out]; exact HFB.out)
  obtain ⟨hnm, hno⟩ := Prod.mk.inj (HE2.out.trans ((meet_symm HFA.out HFB2.out).trans HE3.out.symm))
  subst hnm hno
  have hg := hg.trans' (bel_alloc w24 (.cells #[.string m.says, .string m.pred, .int .i64 m.n, .bool m.t0.v, .string m.t0.name, .bool m.t1.v, .string m.t1.name, .bool m.t2.v, .string m.t2.name, .bool m.t3.v, .string m.t3.name] 30))
  have hN : AtomAt (w24.alloc (.cells #[.string m.says, .string m.pred, .int .i64 m.n, .bool m.t0.v, .string m.t0.name, .bool m.t1.v, .string m.t1.name, .bool m.t2.v, .string m.t2.name, .bool m.t3.v, .string m.t3.name] 30)) w24.heap.size m := AtomAt.new w24 m
  clear c0 c1 c2 c3 c4 c5 c6 c7 c8 c9 c10
  clear d0 d1 d2 d3 d4 d5 d6 d7 d8 d9 d10
  have hA := hA.bel hg
  have hB2 := hB2.bel hg
  have hC := hC.bel hg
  have hM := hM.bel hg
  have hb := hb.trans' hg
  clear hg hM3
  have hqe : eqA m m = true := (eqA_iff _ _).2 rfl
  have hqn := neq_atom m m
  rw [hqe] at hqn
  clear hqe
  have hqb : (ok != ok) = false := by simp
  have hqb2 : (ok == ok) = true := by simp
  have HLE : RowKit.Hid (underD c a = true → underD c b2 = true → ∃ m2, meetR a b2 = (m2, true) ∧ underD c m2 = true) := Lib.hid (by rw [HB2.out]; exact meet_least HFA.out HFB.out HAP.out)
  have hU1 := Lib.hid (fun W => rUnder_any m a W)
  have hU2 := Lib.hid (fun W => rUnder_any m b2 W)
  have hU3 := Lib.hid (fun W => rUnder_any c a W)
  have hU4 := Lib.hid (fun W => rUnder_any c b2 W)
  have hU5 := Lib.hid (fun W => rUnder_any c m W)
  have HA0 := Lib.hid hA
  have HB0 := Lib.hid hB2
  have HC0 := Lib.hid hC
  have HM0 := Lib.hid hM
  have HN0 := Lib.hid hN
  have HB9 := Lib.hid hb
  clear hA hB2 hC hM hN hb
  cases ok
  case false =>
    cases g1 : groundD c
    case false =>
      rw [g1] at hGc
      clear g1
      have hA := HA0.out; have hB2 := HB0.out; have hC := HC0.out; have hM := HM0.out; have hN := HN0.out; have hb := HB9.out
      obtain ⟨m0, m1, m2, m3, m4, m5, m6, m7, m8, m9, m10⟩ := hM.cells
      obtain ⟨n0, n1, n2, n3, n4, n5, n6, n7, n8, n9, n10⟩ := hN.cells
      obtain ⟨c0, c1, c2, c3, c4, c5, c6, c7, c8, c9, c10⟩ := hC.cells
      go_wp2_with (fail)
      refine (hGc.out _).mono ?_
      rintro e w30 ⟨rfl, hg⟩
      have hA := hA.bel hg
      have hB2 := hB2.bel hg
      have hC := hC.bel hg
      have hM := hM.bel hg
      have hb := hb.trans' hg
      clear hg
      clear c0 c1 c2 c3 c4 c5 c6 c7 c8 c9 c10
      obtain ⟨c0, c1, c2, c3, c4, c5, c6, c7, c8, c9, c10⟩ := hC.cells
      obtain ⟨d0, d1, d2, d3, d4, d5, d6, d7, d8, d9, d10⟩ := hA.cells
      go_wp2
      go_ret
      exact ⟨rfl, hb⟩
    rw [g1] at hGc
    clear g1
    cases g2 : underD c a
    case false =>
      rw [g2] at hU3
      clear g2
      have hA := HA0.out; have hB2 := HB0.out; have hC := HC0.out; have hM := HM0.out; have hN := HN0.out; have hb := HB9.out
      obtain ⟨m0, m1, m2, m3, m4, m5, m6, m7, m8, m9, m10⟩ := hM.cells
      obtain ⟨n0, n1, n2, n3, n4, n5, n6, n7, n8, n9, n10⟩ := hN.cells
      obtain ⟨c0, c1, c2, c3, c4, c5, c6, c7, c8, c9, c10⟩ := hC.cells
      go_wp2_with (fail)
      refine (hGc.out _).mono ?_
      rintro e w30 ⟨rfl, hg⟩
      have hA := hA.bel hg
      have hB2 := hB2.bel hg
      have hC := hC.bel hg
      have hM := hM.bel hg
      have hb := hb.trans' hg
      clear hg
      clear c0 c1 c2 c3 c4 c5 c6 c7 c8 c9 c10
      obtain ⟨c0, c1, c2, c3, c4, c5, c6, c7, c8, c9, c10⟩ := hC.cells
      obtain ⟨d0, d1, d2, d3, d4, d5, d6, d7, d8, d9, d10⟩ := hA.cells
      go_wp2_with (fail)
      refine (hU3.out _).mono ?_
      rintro e w31 ⟨rfl, hg⟩
      have hA := hA.bel hg
      have hB2 := hB2.bel hg
      have hC := hC.bel hg
      have hM := hM.bel hg
      have hb := hb.trans' hg
      clear hg
      clear c0 c1 c2 c3 c4 c5 c6 c7 c8 c9 c10 d0 d1 d2 d3 d4 d5 d6 d7 d8 d9 d10
      obtain ⟨c0, c1, c2, c3, c4, c5, c6, c7, c8, c9, c10⟩ := hC.cells
      obtain ⟨d0, d1, d2, d3, d4, d5, d6, d7, d8, d9, d10⟩ := hB2.cells
      go_wp2
      go_ret
      exact ⟨rfl, hb⟩
    rw [g2] at hU3
    cases g3 : underD c b2
    case false =>
      rw [g3] at hU4
      clear g3 g2
      have hA := HA0.out; have hB2 := HB0.out; have hC := HC0.out; have hM := HM0.out; have hN := HN0.out; have hb := HB9.out
      obtain ⟨m0, m1, m2, m3, m4, m5, m6, m7, m8, m9, m10⟩ := hM.cells
      obtain ⟨n0, n1, n2, n3, n4, n5, n6, n7, n8, n9, n10⟩ := hN.cells
      obtain ⟨c0, c1, c2, c3, c4, c5, c6, c7, c8, c9, c10⟩ := hC.cells
      go_wp2_with (fail)
      refine (hGc.out _).mono ?_
      rintro e w30 ⟨rfl, hg⟩
      have hA := hA.bel hg
      have hB2 := hB2.bel hg
      have hC := hC.bel hg
      have hM := hM.bel hg
      have hb := hb.trans' hg
      clear hg
      clear c0 c1 c2 c3 c4 c5 c6 c7 c8 c9 c10
      obtain ⟨c0, c1, c2, c3, c4, c5, c6, c7, c8, c9, c10⟩ := hC.cells
      obtain ⟨d0, d1, d2, d3, d4, d5, d6, d7, d8, d9, d10⟩ := hA.cells
      go_wp2_with (fail)
      refine (hU3.out _).mono ?_
      rintro e w31 ⟨rfl, hg⟩
      have hA := hA.bel hg
      have hB2 := hB2.bel hg
      have hC := hC.bel hg
      have hM := hM.bel hg
      have hb := hb.trans' hg
      clear hg
      clear c0 c1 c2 c3 c4 c5 c6 c7 c8 c9 c10 d0 d1 d2 d3 d4 d5 d6 d7 d8 d9 d10
      obtain ⟨c0, c1, c2, c3, c4, c5, c6, c7, c8, c9, c10⟩ := hC.cells
      obtain ⟨d0, d1, d2, d3, d4, d5, d6, d7, d8, d9, d10⟩ := hB2.cells
      go_wp2_with (fail)
      refine (hU4.out _).mono ?_
      rintro e w32 ⟨rfl, hg⟩
      have hA := hA.bel hg
      have hB2 := hB2.bel hg
      have hC := hC.bel hg
      have hM := hM.bel hg
      have hb := hb.trans' hg
      clear hg
      clear c0 c1 c2 c3 c4 c5 c6 c7 c8 c9 c10 d0 d1 d2 d3 d4 d5 d6 d7 d8 d9 d10
      obtain ⟨c0, c1, c2, c3, c4, c5, c6, c7, c8, c9, c10⟩ := hC.cells
      obtain ⟨d0, d1, d2, d3, d4, d5, d6, d7, d8, d9, d10⟩ := hM.cells
      go_wp2
      go_ret
      exact ⟨rfl, hb⟩
    rw [g3] at hU4
    obtain ⟨m2, hm1, hm2⟩ := HLE.out g2 g3
    obtain ⟨hm3, hm4⟩ := Prod.mk.inj (HE2.out.trans hm1)
    cases hm4
  case true =>
    have HUN := Lib.hid (meet_under HFA.out HFB2.out HE2.out.symm)
    rw [HUN.out.1] at hU1
    rw [HUN.out.2] at hU2
    cases g1 : groundD c
    case false =>
      rw [g1] at hGc
      clear g1
      have hA := HA0.out; have hB2 := HB0.out; have hC := HC0.out; have hM := HM0.out; have hN := HN0.out; have hb := HB9.out
      obtain ⟨m0, m1, m2, m3, m4, m5, m6, m7, m8, m9, m10⟩ := hM.cells
      obtain ⟨n0, n1, n2, n3, n4, n5, n6, n7, n8, n9, n10⟩ := hN.cells
      obtain ⟨c0, c1, c2, c3, c4, c5, c6, c7, c8, c9, c10⟩ := hA.cells
      go_wp2_with (fail)
      refine (hU1.out _).mono ?_
      rintro e w30 ⟨rfl, hg⟩
      have hA := hA.bel hg
      have hB2 := hB2.bel hg
      have hC := hC.bel hg
      have hM := hM.bel hg
      have hb := hb.trans' hg
      clear hg
      clear c0 c1 c2 c3 c4 c5 c6 c7 c8 c9 c10
      obtain ⟨c0, c1, c2, c3, c4, c5, c6, c7, c8, c9, c10⟩ := hM.cells
      obtain ⟨d0, d1, d2, d3, d4, d5, d6, d7, d8, d9, d10⟩ := hB2.cells
      go_wp2_with (fail)
      refine (hU2.out _).mono ?_
      rintro e w31 ⟨rfl, hg⟩
      have hA := hA.bel hg
      have hB2 := hB2.bel hg
      have hC := hC.bel hg
      have hM := hM.bel hg
      have hb := hb.trans' hg
      clear hg
      clear c0 c1 c2 c3 c4 c5 c6 c7 c8 c9 c10 d0 d1 d2 d3 d4 d5 d6 d7 d8 d9 d10
      obtain ⟨c0, c1, c2, c3, c4, c5, c6, c7, c8, c9, c10⟩ := hC.cells
      go_wp2_with (fail)
      refine (hGc.out _).mono ?_
      rintro e w32 ⟨rfl, hg⟩
      have hA := hA.bel hg
      have hB2 := hB2.bel hg
      have hC := hC.bel hg
      have hM := hM.bel hg
      have hb := hb.trans' hg
      clear hg
      clear c0 c1 c2 c3 c4 c5 c6 c7 c8 c9 c10
      obtain ⟨c0, c1, c2, c3, c4, c5, c6, c7, c8, c9, c10⟩ := hC.cells
      obtain ⟨d0, d1, d2, d3, d4, d5, d6, d7, d8, d9, d10⟩ := hA.cells
      go_wp2
      go_ret
      exact ⟨rfl, hb⟩
    rw [g1] at hGc
    clear g1
    cases g2 : underD c a
    case false =>
      rw [g2] at hU3
      clear g2
      have hA := HA0.out; have hB2 := HB0.out; have hC := HC0.out; have hM := HM0.out; have hN := HN0.out; have hb := HB9.out
      obtain ⟨m0, m1, m2, m3, m4, m5, m6, m7, m8, m9, m10⟩ := hM.cells
      obtain ⟨n0, n1, n2, n3, n4, n5, n6, n7, n8, n9, n10⟩ := hN.cells
      obtain ⟨c0, c1, c2, c3, c4, c5, c6, c7, c8, c9, c10⟩ := hA.cells
      go_wp2_with (fail)
      refine (hU1.out _).mono ?_
      rintro e w30 ⟨rfl, hg⟩
      have hA := hA.bel hg
      have hB2 := hB2.bel hg
      have hC := hC.bel hg
      have hM := hM.bel hg
      have hb := hb.trans' hg
      clear hg
      clear c0 c1 c2 c3 c4 c5 c6 c7 c8 c9 c10
      obtain ⟨c0, c1, c2, c3, c4, c5, c6, c7, c8, c9, c10⟩ := hM.cells
      obtain ⟨d0, d1, d2, d3, d4, d5, d6, d7, d8, d9, d10⟩ := hB2.cells
      go_wp2_with (fail)
      refine (hU2.out _).mono ?_
      rintro e w31 ⟨rfl, hg⟩
      have hA := hA.bel hg
      have hB2 := hB2.bel hg
      have hC := hC.bel hg
      have hM := hM.bel hg
      have hb := hb.trans' hg
      clear hg
      clear c0 c1 c2 c3 c4 c5 c6 c7 c8 c9 c10 d0 d1 d2 d3 d4 d5 d6 d7 d8 d9 d10
      obtain ⟨c0, c1, c2, c3, c4, c5, c6, c7, c8, c9, c10⟩ := hC.cells
      go_wp2_with (fail)
      refine (hGc.out _).mono ?_
      rintro e w32 ⟨rfl, hg⟩
      have hA := hA.bel hg
      have hB2 := hB2.bel hg
      have hC := hC.bel hg
      have hM := hM.bel hg
      have hb := hb.trans' hg
      clear hg
      clear c0 c1 c2 c3 c4 c5 c6 c7 c8 c9 c10
      obtain ⟨c0, c1, c2, c3, c4, c5, c6, c7, c8, c9, c10⟩ := hC.cells
      obtain ⟨d0, d1, d2, d3, d4, d5, d6, d7, d8, d9, d10⟩ := hA.cells
      go_wp2_with (fail)
      refine (hU3.out _).mono ?_
      rintro e w33 ⟨rfl, hg⟩
      have hA := hA.bel hg
      have hB2 := hB2.bel hg
      have hC := hC.bel hg
      have hM := hM.bel hg
      have hb := hb.trans' hg
      clear hg
      clear c0 c1 c2 c3 c4 c5 c6 c7 c8 c9 c10 d0 d1 d2 d3 d4 d5 d6 d7 d8 d9 d10
      obtain ⟨c0, c1, c2, c3, c4, c5, c6, c7, c8, c9, c10⟩ := hC.cells
      obtain ⟨d0, d1, d2, d3, d4, d5, d6, d7, d8, d9, d10⟩ := hB2.cells
      go_wp2
      go_ret
      exact ⟨rfl, hb⟩
    rw [g2] at hU3
    cases g3 : underD c b2
    case false =>
      rw [g3] at hU4
      clear g3 g2
      have hA := HA0.out; have hB2 := HB0.out; have hC := HC0.out; have hM := HM0.out; have hN := HN0.out; have hb := HB9.out
      obtain ⟨m0, m1, m2, m3, m4, m5, m6, m7, m8, m9, m10⟩ := hM.cells
      obtain ⟨n0, n1, n2, n3, n4, n5, n6, n7, n8, n9, n10⟩ := hN.cells
      obtain ⟨c0, c1, c2, c3, c4, c5, c6, c7, c8, c9, c10⟩ := hA.cells
      go_wp2_with (fail)
      refine (hU1.out _).mono ?_
      rintro e w30 ⟨rfl, hg⟩
      have hA := hA.bel hg
      have hB2 := hB2.bel hg
      have hC := hC.bel hg
      have hM := hM.bel hg
      have hb := hb.trans' hg
      clear hg
      clear c0 c1 c2 c3 c4 c5 c6 c7 c8 c9 c10
      obtain ⟨c0, c1, c2, c3, c4, c5, c6, c7, c8, c9, c10⟩ := hM.cells
      obtain ⟨d0, d1, d2, d3, d4, d5, d6, d7, d8, d9, d10⟩ := hB2.cells
      go_wp2_with (fail)
      refine (hU2.out _).mono ?_
      rintro e w31 ⟨rfl, hg⟩
      have hA := hA.bel hg
      have hB2 := hB2.bel hg
      have hC := hC.bel hg
      have hM := hM.bel hg
      have hb := hb.trans' hg
      clear hg
      clear c0 c1 c2 c3 c4 c5 c6 c7 c8 c9 c10 d0 d1 d2 d3 d4 d5 d6 d7 d8 d9 d10
      obtain ⟨c0, c1, c2, c3, c4, c5, c6, c7, c8, c9, c10⟩ := hC.cells
      go_wp2_with (fail)
      refine (hGc.out _).mono ?_
      rintro e w32 ⟨rfl, hg⟩
      have hA := hA.bel hg
      have hB2 := hB2.bel hg
      have hC := hC.bel hg
      have hM := hM.bel hg
      have hb := hb.trans' hg
      clear hg
      clear c0 c1 c2 c3 c4 c5 c6 c7 c8 c9 c10
      obtain ⟨c0, c1, c2, c3, c4, c5, c6, c7, c8, c9, c10⟩ := hC.cells
      obtain ⟨d0, d1, d2, d3, d4, d5, d6, d7, d8, d9, d10⟩ := hA.cells
      go_wp2_with (fail)
      refine (hU3.out _).mono ?_
      rintro e w33 ⟨rfl, hg⟩
      have hA := hA.bel hg
      have hB2 := hB2.bel hg
      have hC := hC.bel hg
      have hM := hM.bel hg
      have hb := hb.trans' hg
      clear hg
      clear c0 c1 c2 c3 c4 c5 c6 c7 c8 c9 c10 d0 d1 d2 d3 d4 d5 d6 d7 d8 d9 d10
      obtain ⟨c0, c1, c2, c3, c4, c5, c6, c7, c8, c9, c10⟩ := hC.cells
      obtain ⟨d0, d1, d2, d3, d4, d5, d6, d7, d8, d9, d10⟩ := hB2.cells
      go_wp2_with (fail)
      refine (hU4.out _).mono ?_
      rintro e w34 ⟨rfl, hg⟩
      have hA := hA.bel hg
      have hB2 := hB2.bel hg
      have hC := hC.bel hg
      have hM := hM.bel hg
      have hb := hb.trans' hg
      clear hg
      clear c0 c1 c2 c3 c4 c5 c6 c7 c8 c9 c10 d0 d1 d2 d3 d4 d5 d6 d7 d8 d9 d10
      obtain ⟨c0, c1, c2, c3, c4, c5, c6, c7, c8, c9, c10⟩ := hC.cells
      obtain ⟨d0, d1, d2, d3, d4, d5, d6, d7, d8, d9, d10⟩ := hM.cells
      go_wp2
      go_ret
      exact ⟨rfl, hb⟩
    rw [g3] at hU4
    obtain ⟨m2, hm1, hm2⟩ := HLE.out g2 g3
    obtain ⟨hm3, hm4⟩ := Prod.mk.inj (HE2.out.trans hm1)
    rw [← hm3] at hm2
    rw [hm2] at hU5
    clear hm1 hm2 hm3 hm4 g2 g3 m2
    have hA := HA0.out; have hB2 := HB0.out; have hC := HC0.out; have hM := HM0.out; have hN := HN0.out; have hb := HB9.out
    obtain ⟨m0, m1, m2, m3, m4, m5, m6, m7, m8, m9, m10⟩ := hM.cells
    obtain ⟨n0, n1, n2, n3, n4, n5, n6, n7, n8, n9, n10⟩ := hN.cells
    obtain ⟨c0, c1, c2, c3, c4, c5, c6, c7, c8, c9, c10⟩ := hA.cells
    go_wp2_with (fail)
    refine (hU1.out _).mono ?_
    rintro e w30 ⟨rfl, hg⟩
    have hA := hA.bel hg
    have hB2 := hB2.bel hg
    have hC := hC.bel hg
    have hM := hM.bel hg
    have hb := hb.trans' hg
    clear hg
    clear c0 c1 c2 c3 c4 c5 c6 c7 c8 c9 c10
    obtain ⟨c0, c1, c2, c3, c4, c5, c6, c7, c8, c9, c10⟩ := hM.cells
    obtain ⟨d0, d1, d2, d3, d4, d5, d6, d7, d8, d9, d10⟩ := hB2.cells
    go_wp2_with (fail)
    refine (hU2.out _).mono ?_
    rintro e w31 ⟨rfl, hg⟩
    have hA := hA.bel hg
    have hB2 := hB2.bel hg
    have hC := hC.bel hg
    have hM := hM.bel hg
    have hb := hb.trans' hg
    clear hg
    clear c0 c1 c2 c3 c4 c5 c6 c7 c8 c9 c10 d0 d1 d2 d3 d4 d5 d6 d7 d8 d9 d10
    obtain ⟨c0, c1, c2, c3, c4, c5, c6, c7, c8, c9, c10⟩ := hC.cells
    go_wp2_with (fail)
    refine (hGc.out _).mono ?_
    rintro e w32 ⟨rfl, hg⟩
    have hA := hA.bel hg
    have hB2 := hB2.bel hg
    have hC := hC.bel hg
    have hM := hM.bel hg
    have hb := hb.trans' hg
    clear hg
    clear c0 c1 c2 c3 c4 c5 c6 c7 c8 c9 c10
    obtain ⟨c0, c1, c2, c3, c4, c5, c6, c7, c8, c9, c10⟩ := hC.cells
    obtain ⟨d0, d1, d2, d3, d4, d5, d6, d7, d8, d9, d10⟩ := hA.cells
    go_wp2_with (fail)
    refine (hU3.out _).mono ?_
    rintro e w33 ⟨rfl, hg⟩
    have hA := hA.bel hg
    have hB2 := hB2.bel hg
    have hC := hC.bel hg
    have hM := hM.bel hg
    have hb := hb.trans' hg
    clear hg
    clear c0 c1 c2 c3 c4 c5 c6 c7 c8 c9 c10 d0 d1 d2 d3 d4 d5 d6 d7 d8 d9 d10
    obtain ⟨c0, c1, c2, c3, c4, c5, c6, c7, c8, c9, c10⟩ := hC.cells
    obtain ⟨d0, d1, d2, d3, d4, d5, d6, d7, d8, d9, d10⟩ := hB2.cells
    go_wp2_with (fail)
    refine (hU4.out _).mono ?_
    rintro e w34 ⟨rfl, hg⟩
    have hA := hA.bel hg
    have hB2 := hB2.bel hg
    have hC := hC.bel hg
    have hM := hM.bel hg
    have hb := hb.trans' hg
    clear hg
    clear c0 c1 c2 c3 c4 c5 c6 c7 c8 c9 c10 d0 d1 d2 d3 d4 d5 d6 d7 d8 d9 d10
    obtain ⟨c0, c1, c2, c3, c4, c5, c6, c7, c8, c9, c10⟩ := hC.cells
    obtain ⟨d0, d1, d2, d3, d4, d5, d6, d7, d8, d9, d10⟩ := hM.cells
    go_wp2_with (fail)
    refine (hU5.out _).mono ?_
    rintro e w35 ⟨rfl, hg⟩
    have hA := hA.bel hg
    have hB2 := hB2.bel hg
    have hC := hC.bel hg
    have hM := hM.bel hg
    have hb := hb.trans' hg
    clear hg
    clear c0 c1 c2 c3 c4 c5 c6 c7 c8 c9 c10 d0 d1 d2 d3 d4 d5 d6 d7 d8 d9 d10
    go_wp2
    go_ret
    exact ⟨rfl, hb⟩
end Go.Proofs.YtkcnbdlhggoojaaDoor
