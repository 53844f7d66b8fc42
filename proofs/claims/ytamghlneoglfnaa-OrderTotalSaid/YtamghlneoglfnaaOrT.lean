/-
  The law OrderTotal for every input. Conditions: what came in lies as its parameters' types say.
-/
import Derived.Test.YtamghlneoglfnaaOrT0
namespace Go.Proofs.Ytamghlneoglfnaa
open Go.RowKit

set_option maxRecDepth 20000 in
set_option maxHeartbeats 16000000 in
theorem lawOrderTotal (a b c : AtomD) (w : World) (hak : AtomOk a) (hbk : AtomOk b) (hck : AtomOk c) :
    Calls Try.prog 7 #[.agg #[.string a.says, .string a.pred, .int .i64 a.n, .bool a.t0.v, .string a.t0.name, .bool a.t1.v, .string a.t1.name, .bool a.t2.v, .string a.t2.name, .bool a.t3.v, .string a.t3.name], .agg #[.string b.says, .string b.pred, .int .i64 b.n, .bool b.t0.v, .string b.t0.name, .bool b.t1.v, .string b.t1.name, .bool b.t2.v, .string b.t2.name, .bool b.t3.v, .string b.t3.name], .agg #[.string c.says, .string c.pred, .int .i64 c.n, .bool c.t0.v, .string c.t0.name, .bool c.t1.v, .string c.t1.name, .bool c.t2.v, .string c.t2.name, .bool c.t3.v, .string c.t3.name]] w fun e w' => e = .returned (.bool true) ∧ Bel w w' := by
  have hA := AtomAt.new w a
  replace hA := hA.bel (bel_alloc (w.alloc (.cells #[.string a.says, .string a.pred, .int .i64 a.n, .bool a.t0.v, .string a.t0.name, .bool a.t1.v, .string a.t1.name, .bool a.t2.v, .string a.t2.name, .bool a.t3.v, .string a.t3.name] 27)) (.cells #[.string b.says, .string b.pred, .int .i64 b.n, .bool b.t0.v, .string b.t0.name, .bool b.t1.v, .string b.t1.name, .bool b.t2.v, .string b.t2.name, .bool b.t3.v, .string b.t3.name] 27))
  replace hA := hA.bel (bel_alloc ((w.alloc (.cells #[.string a.says, .string a.pred, .int .i64 a.n, .bool a.t0.v, .string a.t0.name, .bool a.t1.v, .string a.t1.name, .bool a.t2.v, .string a.t2.name, .bool a.t3.v, .string a.t3.name] 27)).alloc (.cells #[.string b.says, .string b.pred, .int .i64 b.n, .bool b.t0.v, .string b.t0.name, .bool b.t1.v, .string b.t1.name, .bool b.t2.v, .string b.t2.name, .bool b.t3.v, .string b.t3.name] 27)) (.cells #[.string c.says, .string c.pred, .int .i64 c.n, .bool c.t0.v, .string c.t0.name, .bool c.t1.v, .string c.t1.name, .bool c.t2.v, .string c.t2.name, .bool c.t3.v, .string c.t3.name] 27))
  have hB := AtomAt.new (w.alloc (.cells #[.string a.says, .string a.pred, .int .i64 a.n, .bool a.t0.v, .string a.t0.name, .bool a.t1.v, .string a.t1.name, .bool a.t2.v, .string a.t2.name, .bool a.t3.v, .string a.t3.name] 27)) b
  rw [show (w.alloc (.cells #[.string a.says, .string a.pred, .int .i64 a.n, .bool a.t0.v, .string a.t0.name, .bool a.t1.v, .string a.t1.name, .bool a.t2.v, .string a.t2.name, .bool a.t3.v, .string a.t3.name] 27)).heap.size = w.heap.size + 1 by simp] at hB
  replace hB := hB.bel (bel_alloc ((w.alloc (.cells #[.string a.says, .string a.pred, .int .i64 a.n, .bool a.t0.v, .string a.t0.name, .bool a.t1.v, .string a.t1.name, .bool a.t2.v, .string a.t2.name, .bool a.t3.v, .string a.t3.name] 27)).alloc (.cells #[.string b.says, .string b.pred, .int .i64 b.n, .bool b.t0.v, .string b.t0.name, .bool b.t1.v, .string b.t1.name, .bool b.t2.v, .string b.t2.name, .bool b.t3.v, .string b.t3.name] 27)) (.cells #[.string c.says, .string c.pred, .int .i64 c.n, .bool c.t0.v, .string c.t0.name, .bool c.t1.v, .string c.t1.name, .bool c.t2.v, .string c.t2.name, .bool c.t3.v, .string c.t3.name] 27))
  have hC := AtomAt.new ((w.alloc (.cells #[.string a.says, .string a.pred, .int .i64 a.n, .bool a.t0.v, .string a.t0.name, .bool a.t1.v, .string a.t1.name, .bool a.t2.v, .string a.t2.name, .bool a.t3.v, .string a.t3.name] 27)).alloc (.cells #[.string b.says, .string b.pred, .int .i64 b.n, .bool b.t0.v, .string b.t0.name, .bool b.t1.v, .string b.t1.name, .bool b.t2.v, .string b.t2.name, .bool b.t3.v, .string b.t3.name] 27)) c
  rw [show ((w.alloc (.cells #[.string a.says, .string a.pred, .int .i64 a.n, .bool a.t0.v, .string a.t0.name, .bool a.t1.v, .string a.t1.name, .bool a.t2.v, .string a.t2.name, .bool a.t3.v, .string a.t3.name] 27)).alloc (.cells #[.string b.says, .string b.pred, .int .i64 b.n, .bool b.t0.v, .string b.t0.name, .bool b.t1.v, .string b.t1.name, .bool b.t2.v, .string b.t2.name, .bool b.t3.v, .string b.t3.name] 27)).heap.size = w.heap.size + 2 by simp] at hC
  have hb := ((bel_alloc w (.cells #[.string a.says, .string a.pred, .int .i64 a.n, .bool a.t0.v, .string a.t0.name, .bool a.t1.v, .string a.t1.name, .bool a.t2.v, .string a.t2.name, .bool a.t3.v, .string a.t3.name] 27)).trans' (bel_alloc (w.alloc (.cells #[.string a.says, .string a.pred, .int .i64 a.n, .bool a.t0.v, .string a.t0.name, .bool a.t1.v, .string a.t1.name, .bool a.t2.v, .string a.t2.name, .bool a.t3.v, .string a.t3.name] 27)) (.cells #[.string b.says, .string b.pred, .int .i64 b.n, .bool b.t0.v, .string b.t0.name, .bool b.t1.v, .string b.t1.name, .bool b.t2.v, .string b.t2.name, .bool b.t3.v, .string b.t3.name] 27))).trans' (bel_alloc ((w.alloc (.cells #[.string a.says, .string a.pred, .int .i64 a.n, .bool a.t0.v, .string a.t0.name, .bool a.t1.v, .string a.t1.name, .bool a.t2.v, .string a.t2.name, .bool a.t3.v, .string a.t3.name] 27)).alloc (.cells #[.string b.says, .string b.pred, .int .i64 b.n, .bool b.t0.v, .string b.t0.name, .bool b.t1.v, .string b.t1.name, .bool b.t2.v, .string b.t2.name, .bool b.t3.v, .string b.t3.name] 27)) (.cells #[.string c.says, .string c.pred, .int .i64 c.n, .bool c.t0.v, .string c.t0.name, .bool c.t1.v, .string c.t1.name, .bool c.t2.v, .string c.t2.name, .bool c.t3.v, .string c.t3.name] 27))
  have hLa := Lib.hid (fun W => light_any a W hak)
  have hKa := Lib.hid (fun W => rCheck_any a W hak)
  have hLb := Lib.hid (fun W => light_any b W hbk)
  have hKb := Lib.hid (fun W => rCheck_any b W hbk)
  have hLc := Lib.hid (fun W => light_any c W hck)
  have hKc := Lib.hid (fun W => rCheck_any c W hck)
  cases q0 : lightA a
  case false =>
    rw [q0] at hLa
    clear q0
    go_enter Try.func7, Try.ntmps7
    go_wp2_with (fail)
    refine (lives8_any _).mono ?_
    rintro e w1 ⟨rfl, hg⟩
    replace hA := hA.bel hg
    replace hB := hB.bel hg
    replace hC := hC.bel hg
    replace hb := hb.trans' hg
    clear hg
    obtain ⟨c0, c1, c2, c3, c4, c5, c6, c7, c8, c9, c10⟩ := hA.cells
    go_wp2_with (fail)
    refine (hLa.out _).mono ?_
    rintro e w2 ⟨rfl, hg⟩
    replace hA := hA.bel hg
    replace hB := hB.bel hg
    replace hC := hC.bel hg
    replace hb := hb.trans' hg
    clear hg
    clear c0 c1 c2 c3 c4 c5 c6 c7 c8 c9 c10
    obtain ⟨c0, c1, c2, c3, c4, c5, c6, c7, c8, c9, c10⟩ := hB.cells
    go_wp2
    go_ret
    exact ⟨rfl, hb⟩
  rw [q0] at hLa
  cases q1 : lightA b
  case false =>
    rw [q1] at hLb
    clear q1 q0
    go_enter Try.func7, Try.ntmps7
    go_wp2_with (fail)
    refine (lives8_any _).mono ?_
    rintro e w1 ⟨rfl, hg⟩
    replace hA := hA.bel hg
    replace hB := hB.bel hg
    replace hC := hC.bel hg
    replace hb := hb.trans' hg
    clear hg
    obtain ⟨c0, c1, c2, c3, c4, c5, c6, c7, c8, c9, c10⟩ := hA.cells
    go_wp2_with (fail)
    refine (hLa.out _).mono ?_
    rintro e w2 ⟨rfl, hg⟩
    replace hA := hA.bel hg
    replace hB := hB.bel hg
    replace hC := hC.bel hg
    replace hb := hb.trans' hg
    clear hg
    clear c0 c1 c2 c3 c4 c5 c6 c7 c8 c9 c10
    obtain ⟨c0, c1, c2, c3, c4, c5, c6, c7, c8, c9, c10⟩ := hB.cells
    go_wp2_with (fail)
    refine (hLb.out _).mono ?_
    rintro e w3 ⟨rfl, hg⟩
    replace hA := hA.bel hg
    replace hB := hB.bel hg
    replace hC := hC.bel hg
    replace hb := hb.trans' hg
    clear hg
    clear c0 c1 c2 c3 c4 c5 c6 c7 c8 c9 c10
    obtain ⟨c0, c1, c2, c3, c4, c5, c6, c7, c8, c9, c10⟩ := hC.cells
    go_wp2
    go_ret
    exact ⟨rfl, hb⟩
  rw [q1] at hLb
  cases q2 : lightA c
  case false =>
    rw [q2] at hLc
    clear q2 q0 q1
    go_enter Try.func7, Try.ntmps7
    go_wp2_with (fail)
    refine (lives8_any _).mono ?_
    rintro e w1 ⟨rfl, hg⟩
    replace hA := hA.bel hg
    replace hB := hB.bel hg
    replace hC := hC.bel hg
    replace hb := hb.trans' hg
    clear hg
    obtain ⟨c0, c1, c2, c3, c4, c5, c6, c7, c8, c9, c10⟩ := hA.cells
    go_wp2_with (fail)
    refine (hLa.out _).mono ?_
    rintro e w2 ⟨rfl, hg⟩
    replace hA := hA.bel hg
    replace hB := hB.bel hg
    replace hC := hC.bel hg
    replace hb := hb.trans' hg
    clear hg
    clear c0 c1 c2 c3 c4 c5 c6 c7 c8 c9 c10
    obtain ⟨c0, c1, c2, c3, c4, c5, c6, c7, c8, c9, c10⟩ := hB.cells
    go_wp2_with (fail)
    refine (hLb.out _).mono ?_
    rintro e w3 ⟨rfl, hg⟩
    replace hA := hA.bel hg
    replace hB := hB.bel hg
    replace hC := hC.bel hg
    replace hb := hb.trans' hg
    clear hg
    clear c0 c1 c2 c3 c4 c5 c6 c7 c8 c9 c10
    obtain ⟨c0, c1, c2, c3, c4, c5, c6, c7, c8, c9, c10⟩ := hC.cells
    go_wp2_with (fail)
    refine (hLc.out _).mono ?_
    rintro e w4 ⟨rfl, hg⟩
    replace hA := hA.bel hg
    replace hB := hB.bel hg
    replace hC := hC.bel hg
    replace hb := hb.trans' hg
    clear hg
    clear c0 c1 c2 c3 c4 c5 c6 c7 c8 c9 c10
    obtain ⟨c0, c1, c2, c3, c4, c5, c6, c7, c8, c9, c10⟩ := hA.cells
    go_wp2
    go_ret
    exact ⟨rfl, hb⟩
  rw [q2] at hLc
  by_cases q3 : checkD a = 0
  case neg =>
    have hz : (checkD a != 0) = true := by simpa using q3
    have hz2 : (checkD a == 0) = false := by simpa using q3
    clear q0 q1 q2 q3
    go_enter Try.func7, Try.ntmps7
    go_wp2_with (fail)
    refine (lives8_any _).mono ?_
    rintro e w1 ⟨rfl, hg⟩
    replace hA := hA.bel hg
    replace hB := hB.bel hg
    replace hC := hC.bel hg
    replace hb := hb.trans' hg
    clear hg
    obtain ⟨c0, c1, c2, c3, c4, c5, c6, c7, c8, c9, c10⟩ := hA.cells
    go_wp2_with (fail)
    refine (hLa.out _).mono ?_
    rintro e w2 ⟨rfl, hg⟩
    replace hA := hA.bel hg
    replace hB := hB.bel hg
    replace hC := hC.bel hg
    replace hb := hb.trans' hg
    clear hg
    clear c0 c1 c2 c3 c4 c5 c6 c7 c8 c9 c10
    obtain ⟨c0, c1, c2, c3, c4, c5, c6, c7, c8, c9, c10⟩ := hB.cells
    go_wp2_with (fail)
    refine (hLb.out _).mono ?_
    rintro e w3 ⟨rfl, hg⟩
    replace hA := hA.bel hg
    replace hB := hB.bel hg
    replace hC := hC.bel hg
    replace hb := hb.trans' hg
    clear hg
    clear c0 c1 c2 c3 c4 c5 c6 c7 c8 c9 c10
    obtain ⟨c0, c1, c2, c3, c4, c5, c6, c7, c8, c9, c10⟩ := hC.cells
    go_wp2_with (fail)
    refine (hLc.out _).mono ?_
    rintro e w4 ⟨rfl, hg⟩
    replace hA := hA.bel hg
    replace hB := hB.bel hg
    replace hC := hC.bel hg
    replace hb := hb.trans' hg
    clear hg
    clear c0 c1 c2 c3 c4 c5 c6 c7 c8 c9 c10
    obtain ⟨c0, c1, c2, c3, c4, c5, c6, c7, c8, c9, c10⟩ := hA.cells
    go_wp2_with (fail)
    refine (hKa.out _).mono ?_
    rintro e w5 ⟨rfl, hg⟩
    replace hA := hA.bel hg
    replace hB := hB.bel hg
    replace hC := hC.bel hg
    replace hb := hb.trans' hg
    clear hg
    clear c0 c1 c2 c3 c4 c5 c6 c7 c8 c9 c10
    obtain ⟨c0, c1, c2, c3, c4, c5, c6, c7, c8, c9, c10⟩ := hB.cells
    go_wp2
    go_ret
    exact ⟨rfl, hb⟩
  rw [q3] at hKa
  by_cases q4 : checkD b = 0
  case neg =>
    have hz : (checkD b != 0) = true := by simpa using q4
    have hz2 : (checkD b == 0) = false := by simpa using q4
    clear q0 q1 q2 q3 q4
    go_enter Try.func7, Try.ntmps7
    go_wp2_with (fail)
    refine (lives8_any _).mono ?_
    rintro e w1 ⟨rfl, hg⟩
    replace hA := hA.bel hg
    replace hB := hB.bel hg
    replace hC := hC.bel hg
    replace hb := hb.trans' hg
    clear hg
    obtain ⟨c0, c1, c2, c3, c4, c5, c6, c7, c8, c9, c10⟩ := hA.cells
    go_wp2_with (fail)
    refine (hLa.out _).mono ?_
    rintro e w2 ⟨rfl, hg⟩
    replace hA := hA.bel hg
    replace hB := hB.bel hg
    replace hC := hC.bel hg
    replace hb := hb.trans' hg
    clear hg
    clear c0 c1 c2 c3 c4 c5 c6 c7 c8 c9 c10
    obtain ⟨c0, c1, c2, c3, c4, c5, c6, c7, c8, c9, c10⟩ := hB.cells
    go_wp2_with (fail)
    refine (hLb.out _).mono ?_
    rintro e w3 ⟨rfl, hg⟩
    replace hA := hA.bel hg
    replace hB := hB.bel hg
    replace hC := hC.bel hg
    replace hb := hb.trans' hg
    clear hg
    clear c0 c1 c2 c3 c4 c5 c6 c7 c8 c9 c10
    obtain ⟨c0, c1, c2, c3, c4, c5, c6, c7, c8, c9, c10⟩ := hC.cells
    go_wp2_with (fail)
    refine (hLc.out _).mono ?_
    rintro e w4 ⟨rfl, hg⟩
    replace hA := hA.bel hg
    replace hB := hB.bel hg
    replace hC := hC.bel hg
    replace hb := hb.trans' hg
    clear hg
    clear c0 c1 c2 c3 c4 c5 c6 c7 c8 c9 c10
    obtain ⟨c0, c1, c2, c3, c4, c5, c6, c7, c8, c9, c10⟩ := hA.cells
    go_wp2_with (fail)
    refine (hKa.out _).mono ?_
    rintro e w5 ⟨rfl, hg⟩
    replace hA := hA.bel hg
    replace hB := hB.bel hg
    replace hC := hC.bel hg
    replace hb := hb.trans' hg
    clear hg
    clear c0 c1 c2 c3 c4 c5 c6 c7 c8 c9 c10
    obtain ⟨c0, c1, c2, c3, c4, c5, c6, c7, c8, c9, c10⟩ := hB.cells
    go_wp2_with (fail)
    refine (hKb.out _).mono ?_
    rintro e w6 ⟨rfl, hg⟩
    replace hA := hA.bel hg
    replace hB := hB.bel hg
    replace hC := hC.bel hg
    replace hb := hb.trans' hg
    clear hg
    clear c0 c1 c2 c3 c4 c5 c6 c7 c8 c9 c10
    obtain ⟨c0, c1, c2, c3, c4, c5, c6, c7, c8, c9, c10⟩ := hC.cells
    go_wp2
    go_ret
    exact ⟨rfl, hb⟩
  rw [q4] at hKb
  by_cases q5 : checkD c = 0
  case neg =>
    have hz : (checkD c != 0) = true := by simpa using q5
    have hz2 : (checkD c == 0) = false := by simpa using q5
    clear q0 q1 q2 q3 q4 q5
    go_enter Try.func7, Try.ntmps7
    go_wp2_with (fail)
    refine (lives8_any _).mono ?_
    rintro e w1 ⟨rfl, hg⟩
    replace hA := hA.bel hg
    replace hB := hB.bel hg
    replace hC := hC.bel hg
    replace hb := hb.trans' hg
    clear hg
    obtain ⟨c0, c1, c2, c3, c4, c5, c6, c7, c8, c9, c10⟩ := hA.cells
    go_wp2_with (fail)
    refine (hLa.out _).mono ?_
    rintro e w2 ⟨rfl, hg⟩
    replace hA := hA.bel hg
    replace hB := hB.bel hg
    replace hC := hC.bel hg
    replace hb := hb.trans' hg
    clear hg
    clear c0 c1 c2 c3 c4 c5 c6 c7 c8 c9 c10
    obtain ⟨c0, c1, c2, c3, c4, c5, c6, c7, c8, c9, c10⟩ := hB.cells
    go_wp2_with (fail)
    refine (hLb.out _).mono ?_
    rintro e w3 ⟨rfl, hg⟩
    replace hA := hA.bel hg
    replace hB := hB.bel hg
    replace hC := hC.bel hg
    replace hb := hb.trans' hg
    clear hg
    clear c0 c1 c2 c3 c4 c5 c6 c7 c8 c9 c10
    obtain ⟨c0, c1, c2, c3, c4, c5, c6, c7, c8, c9, c10⟩ := hC.cells
    go_wp2_with (fail)
    refine (hLc.out _).mono ?_
    rintro e w4 ⟨rfl, hg⟩
    replace hA := hA.bel hg
    replace hB := hB.bel hg
    replace hC := hC.bel hg
    replace hb := hb.trans' hg
    clear hg
    clear c0 c1 c2 c3 c4 c5 c6 c7 c8 c9 c10
    obtain ⟨c0, c1, c2, c3, c4, c5, c6, c7, c8, c9, c10⟩ := hA.cells
    go_wp2_with (fail)
    refine (hKa.out _).mono ?_
    rintro e w5 ⟨rfl, hg⟩
    replace hA := hA.bel hg
    replace hB := hB.bel hg
    replace hC := hC.bel hg
    replace hb := hb.trans' hg
    clear hg
    clear c0 c1 c2 c3 c4 c5 c6 c7 c8 c9 c10
    obtain ⟨c0, c1, c2, c3, c4, c5, c6, c7, c8, c9, c10⟩ := hB.cells
    go_wp2_with (fail)
    refine (hKb.out _).mono ?_
    rintro e w6 ⟨rfl, hg⟩
    replace hA := hA.bel hg
    replace hB := hB.bel hg
    replace hC := hC.bel hg
    replace hb := hb.trans' hg
    clear hg
    clear c0 c1 c2 c3 c4 c5 c6 c7 c8 c9 c10
    obtain ⟨c0, c1, c2, c3, c4, c5, c6, c7, c8, c9, c10⟩ := hC.cells
    go_wp2_with (fail)
    refine (hKc.out _).mono ?_
    rintro e w7 ⟨rfl, hg⟩
    replace hA := hA.bel hg
    replace hB := hB.bel hg
    replace hC := hC.bel hg
    replace hb := hb.trans' hg
    clear hg
    clear c0 c1 c2 c3 c4 c5 c6 c7 c8 c9 c10
    obtain ⟨c0, c1, c2, c3, c4, c5, c6, c7, c8, c9, c10⟩ := hA.cells
    obtain ⟨d0, d1, d2, d3, d4, d5, d6, d7, d8, d9, d10⟩ := hB.cells
    go_wp2
    go_ret
    exact ⟨rfl, hb⟩
  rw [q5] at hKc
  have hab := Lib.hid (fun W => Compare_any a b W (AtomOk.sm q0) (AtomOk.sm q1))
  have hba := Lib.hid (fun W => Compare_any b a W (AtomOk.sm q1) (AtomOk.sm q0))
  have hbc := Lib.hid (fun W => Compare_any b c W (AtomOk.sm q1) (AtomOk.sm q2))
  have hac := Lib.hid (fun W => Compare_any a c W (AtomOk.sm q0) (AtomOk.sm q2))
  have QA := Lib.hid q3
  have QB := Lib.hid q4
  have hna := (valid_of q3).lo
  have hnb := (valid_of q3).hi
  have hnc := (valid_of q3).cnt
  clear q0 q1 q2 q3 q4 q5 hak hbk hck
  go_enter Try.func7, Try.ntmps7
  go_wp2_with (fail)
  refine (lives8_any _).mono ?_
  rintro e w1 ⟨rfl, hg⟩
  replace hA := hA.bel hg
  replace hB := hB.bel hg
  replace hC := hC.bel hg
  replace hb := hb.trans' hg
  clear hg
  obtain ⟨c0, c1, c2, c3, c4, c5, c6, c7, c8, c9, c10⟩ := hA.cells
  go_wp2_with (fail)
  refine (hLa.out _).mono ?_
  rintro e w2 ⟨rfl, hg⟩
  replace hA := hA.bel hg
  replace hB := hB.bel hg
  replace hC := hC.bel hg
  replace hb := hb.trans' hg
  clear hg
  clear c0 c1 c2 c3 c4 c5 c6 c7 c8 c9 c10
  obtain ⟨c0, c1, c2, c3, c4, c5, c6, c7, c8, c9, c10⟩ := hB.cells
  go_wp2_with (fail)
  refine (hLb.out _).mono ?_
  rintro e w3 ⟨rfl, hg⟩
  replace hA := hA.bel hg
  replace hB := hB.bel hg
  replace hC := hC.bel hg
  replace hb := hb.trans' hg
  clear hg
  clear c0 c1 c2 c3 c4 c5 c6 c7 c8 c9 c10
  obtain ⟨c0, c1, c2, c3, c4, c5, c6, c7, c8, c9, c10⟩ := hC.cells
  go_wp2_with (fail)
  refine (hLc.out _).mono ?_
  rintro e w4 ⟨rfl, hg⟩
  replace hA := hA.bel hg
  replace hB := hB.bel hg
  replace hC := hC.bel hg
  replace hb := hb.trans' hg
  clear hg
  clear c0 c1 c2 c3 c4 c5 c6 c7 c8 c9 c10
  obtain ⟨c0, c1, c2, c3, c4, c5, c6, c7, c8, c9, c10⟩ := hA.cells
  go_wp2_with (fail)
  refine (hKa.out _).mono ?_
  rintro e w5 ⟨rfl, hg⟩
  replace hA := hA.bel hg
  replace hB := hB.bel hg
  replace hC := hC.bel hg
  replace hb := hb.trans' hg
  clear hg
  clear c0 c1 c2 c3 c4 c5 c6 c7 c8 c9 c10
  obtain ⟨c0, c1, c2, c3, c4, c5, c6, c7, c8, c9, c10⟩ := hB.cells
  go_wp2_with (fail)
  refine (hKb.out _).mono ?_
  rintro e w6 ⟨rfl, hg⟩
  replace hA := hA.bel hg
  replace hB := hB.bel hg
  replace hC := hC.bel hg
  replace hb := hb.trans' hg
  clear hg
  clear c0 c1 c2 c3 c4 c5 c6 c7 c8 c9 c10
  obtain ⟨c0, c1, c2, c3, c4, c5, c6, c7, c8, c9, c10⟩ := hC.cells
  go_wp2_with (fail)
  refine (hKc.out _).mono ?_
  rintro e w7 ⟨rfl, hg⟩
  replace hA := hA.bel hg
  replace hB := hB.bel hg
  replace hC := hC.bel hg
  replace hb := hb.trans' hg
  clear hg
  clear c0 c1 c2 c3 c4 c5 c6 c7 c8 c9 c10
  obtain ⟨c0, c1, c2, c3, c4, c5, c6, c7, c8, c9, c10⟩ := hA.cells
  obtain ⟨d0, d1, d2, d3, d4, d5, d6, d7, d8, d9, d10⟩ := hB.cells
  have HB := Lib.hid hb
  have HA := Lib.hid hA
  have HB1 := Lib.hid hB
  have HC := Lib.hid hC
  rcases cmp_cases a b with hx | hx | hx
  · have HNE : RowKit.Hid (¬ a = b) := Lib.hid (fun e => by rw [e, cmp_eq.2 rfl] at hx; cases hx)
    have hqe := eql_atom a b
    rw [show eqA a b = false from by cases q : eqA a b with | false => rfl | true => exact absurd ((eqA_iff _ _).1 q) HNE.out] at hqe
    have hy := cmp_neg b a
    rw [hx] at hab hy
    rw [hy] at hba
    have HLX : RowKit.Hid (ltA a b = true) := Lib.hid (cmp_lt.1 hx)
    clear hx hy
    by_cases hz : cmpD b c = -1
    · have hz2 : cmpD a c = -1 := cmp_lt.2 (ltA_trans HLX.out (cmp_lt.1 hz))
      rw [hz] at hbc
      rw [hz2] at hac
      clear hz hz2
      go_wp2_with (fail)
      refine (hab.out _).mono ?_
      rintro e w8 ⟨rfl, hg⟩
      replace hA := hA.bel hg
      replace hB := hB.bel hg
      replace hC := hC.bel hg
      replace hb := hb.trans' hg
      clear hg
      clear c0 c1 c2 c3 c4 c5 c6 c7 c8 c9 c10
      clear d0 d1 d2 d3 d4 d5 d6 d7 d8 d9 d10
      obtain ⟨c0, c1, c2, c3, c4, c5, c6, c7, c8, c9, c10⟩ := hB.cells
      obtain ⟨d0, d1, d2, d3, d4, d5, d6, d7, d8, d9, d10⟩ := hA.cells
      go_wp2_with (fail)
      refine (hba.out _).mono ?_
      rintro e w9 ⟨rfl, hg⟩
      replace hA := hA.bel hg
      replace hB := hB.bel hg
      replace hC := hC.bel hg
      replace hb := hb.trans' hg
      clear hg
      clear c0 c1 c2 c3 c4 c5 c6 c7 c8 c9 c10
      clear d0 d1 d2 d3 d4 d5 d6 d7 d8 d9 d10
      obtain ⟨c0, c1, c2, c3, c4, c5, c6, c7, c8, c9, c10⟩ := hA.cells
      obtain ⟨d0, d1, d2, d3, d4, d5, d6, d7, d8, d9, d10⟩ := hB.cells
      clear c0 c1 c2 c3 c4 c5 c6 c7 c8 c9 c10
      clear d0 d1 d2 d3 d4 d5 d6 d7 d8 d9 d10
      obtain ⟨c0, c1, c2, c3, c4, c5, c6, c7, c8, c9, c10⟩ := hA.cells
      obtain ⟨d0, d1, d2, d3, d4, d5, d6, d7, d8, d9, d10⟩ := hB.cells
      obtain ⟨f0, f1, f2, f3, f4, f5, f6, f7, f8, f9, f10⟩ := hC.cells
      go_wp2_with (fail)
      refine (hbc.out _).mono ?_
      rintro e w10 ⟨rfl, hg⟩
      replace hA := hA.bel hg
      replace hB := hB.bel hg
      replace hC := hC.bel hg
      replace hb := hb.trans' hg
      clear hg
      clear c0 c1 c2 c3 c4 c5 c6 c7 c8 c9 c10
      clear d0 d1 d2 d3 d4 d5 d6 d7 d8 d9 d10
      clear f0 f1 f2 f3 f4 f5 f6 f7 f8 f9 f10
      obtain ⟨c0, c1, c2, c3, c4, c5, c6, c7, c8, c9, c10⟩ := hA.cells
      obtain ⟨d0, d1, d2, d3, d4, d5, d6, d7, d8, d9, d10⟩ := hC.cells
      go_wp2_with (fail)
      refine (hac.out _).mono ?_
      rintro e w11 ⟨rfl, hg⟩
      replace hA := hA.bel hg
      replace hB := hB.bel hg
      replace hC := hC.bel hg
      replace hb := hb.trans' hg
      clear hg
      clear c0 c1 c2 c3 c4 c5 c6 c7 c8 c9 c10
      clear d0 d1 d2 d3 d4 d5 d6 d7 d8 d9 d10
      obtain ⟨c0, c1, c2, c3, c4, c5, c6, c7, c8, c9, c10⟩ := hA.cells
      obtain ⟨d0, d1, d2, d3, d4, d5, d6, d7, d8, d9, d10⟩ := hB.cells
      have hs1 := fun e => (show (a.says.toList == b.says.toList) = true from toList_eq e)
      by_cases e0 : a.says = b.says
      case neg =>
        have f0 : (a.says.toList == b.says.toList) = false := toList_ne e0
        have g0 : (a.says.toList != b.says.toList) = true := by simp [bne, f0]
        clear hs1 e0
        go_wp2
        go_ret
        exact ⟨rfl, hb⟩
      by_cases e1 : a.pred = b.pred
      case neg =>
        have f1 : (a.pred.toList == b.pred.toList) = false := toList_ne e1
        have g1 : (a.pred.toList != b.pred.toList) = true := by simp [bne, f1]
        have f0 : (a.says.toList == b.says.toList) = true := toList_eq e0
        have g0 : (a.says.toList != b.says.toList) = false := by simp [bne, f0]
        clear hs1 e0 e1
        go_wp2
        go_ret
        exact ⟨rfl, hb⟩
      by_cases e2 : a.n = b.n
      case neg =>
        have f2 : (a.n == b.n) = false := by simpa using e2
        have g2 : (a.n != b.n) = true := by simp [bne, f2]
        have f0 : (a.says.toList == b.says.toList) = true := toList_eq e0
        have g0 : (a.says.toList != b.says.toList) = false := by simp [bne, f0]
        have f1 : (a.pred.toList == b.pred.toList) = true := toList_eq e1
        have g1 : (a.pred.toList != b.pred.toList) = false := by simp [bne, f1]
        clear hs1 e0 e1 e2
        go_wp2
        go_ret
        exact ⟨rfl, hb⟩
      have f0 : (a.says.toList == b.says.toList) = true := toList_eq e0
      have g0 : (a.says.toList != b.says.toList) = false := by simp [bne, f0]
      have f1 : (a.pred.toList == b.pred.toList) = true := toList_eq e1
      have g1 : (a.pred.toList != b.pred.toList) = false := by simp [bne, f1]
      have f2 : (a.n == b.n) = true := by simpa using e2
      have g2 : (a.n != b.n) = false := by simp [bne, f2]
      have E0 := Lib.hid e0
      have E1 := Lib.hid e1
      have E2 := Lib.hid e2
      clear e0 e1 e2 hs1
      have HA9 := Lib.hid hA
      have HB9 := Lib.hid hB
      have Hb := Lib.hid hb
      clear hA hB hC hb hab hba hbc hac hLa hLb hLc hKa hKb hKc
      go_wp2
      go_loopw [8] (fun i wr => ∃ k : Nat, (k : Int) ≤ a.n ∧ i = .int .i64 k ∧ RowKit.Hid (SameTo a b k) ∧ RowKit.Hid (Bel w wr) ∧ RowKit.Hid (AtomAt wr w.heap.size a) ∧ RowKit.Hid (AtomAt wr (w.heap.size + 1) b)) (fun i _ => a.n.toNat - (intOf i).toNat)
      case atStart => exact ⟨0, by omega, rfl, Lib.hid (same_zero _ _), Hb, HA9, HB9⟩
      case round =>
        obtain ⟨k, hk, rfl, HS, HBW, HAW, HBB⟩ := hrel
        clear HA9 HB9 Hb c0 c1 c3 c4 c5 c6 c7 c8 c9 c10 d0 d1 d2 d3 d4 d5 d6 d7 d8 d9 d10 c2
        have c2 := HAW.out.cells.2.2.1
        by_cases hlt : (k : Int) < a.n
        case neg =>
          have hkn : k = cntI a.n := by omega
          exact absurd (same_all QA.out QB.out E0.out E1.out E2.out (by rw [← hkn]; exact HS.out)) HNE.out
        have hk4 : k < 4 := by omega
        have hk0 : (0 : Int) ≤ k := by omega
        have hk5 : (k : Int) < 4 := by omega
        have n1 := HAW.out.nameCell hk4
        have n2 := HBB.out.nameCell hk4
        by_cases hst : nameAt a k = nameAt b k
        · have HS2 := Lib.hid (same_succ HS.out hst)
          have he : ((nameAt a k).toList == (nameAt b k).toList) = true := toList_eq hst
          clear hst
          generalize nameAt a k = s at n1 he
          generalize nameAt b k = t at n2 he
          go_wp2
          go_quiet (fail)
          go_wp2
          go_roundw
          case rel => exact ⟨k + 1, by omega, by go_num, HS2, Lib.hid (HBW.out.trans' (by first | exact Below.refl _ _ | exact bel_drewN _ _)), Lib.hid (HAW.out.bel (by first | exact Below.refl _ _ | exact bel_drewN _ _)), Lib.hid (HBB.out.bel (by first | exact Below.refl _ _ | exact bel_drewN _ _))⟩
          case measure => simp [intOf]; omega
        · have he : ((nameAt a k).toList == (nameAt b k).toList) = false := toList_ne hst
          have HLT := Lib.hid (ltA_at E0.out E1.out E2.out (show k < cntI a.n by omega) HS.out)
          clear hst
          generalize nameAt a k = s at n1 he HLT
          generalize nameAt b k = t at n2 he HLT
          rcases Nat.le_total s.size t.size with hm | hm
          · have hmi : (s.size : Int) ≤ t.size := by omega
            have hmm : min s.size t.size = s.size := by omega
            rw [hmm] at HLT
            have hm0 : (0 : Int) ≤ s.size := by omega
            have hm1 : (s.size : Int) ≤ s.size := by omega
            have hm2 : (t.size : Int) ≤ t.size := by omega
            have hmn : min (s.size : Int) (t.size : Int) = (s.size : Int) := by omega
            have hzz : s.extract 0 s.size = s := by simp
            cases hpx : ((s.extract 0 s.size).toList == (t.extract 0 s.size).toList)
            · have hlt2 : Op.bytesLess s.toList t.toList = true := (HLT.out (by simpa using hpx)).symm.trans HLX.out
              rw [hzz] at hpx
              clear hmm HLT hzz
              go_wp2
              go_quiet (fail)
              go_wp2
              go_quiet (fail)
              go_wp2
              go_ret
              exact ⟨rfl, HBW.out.trans' (by first | exact Below.refl _ _ | exact bel_drewN _ _ | exact (bel_drewN _ _).trans' (bel_drewN _ _))⟩
            · rw [hzz] at hpx
              clear hmm HLT hzz
              go_wp2
              go_quiet (fail)
              go_wp2
              go_quiet (fail)
              go_wp2
              go_ret
              exact ⟨rfl, HBW.out.trans' (by first | exact Below.refl _ _ | exact bel_drewN _ _ | exact (bel_drewN _ _).trans' (bel_drewN _ _))⟩
          · have hmi : (t.size : Int) ≤ s.size := by omega
            have hmm : min s.size t.size = t.size := by omega
            rw [hmm] at HLT
            have hm0 : (0 : Int) ≤ t.size := by omega
            have hm1 : (s.size : Int) ≤ s.size := by omega
            have hm2 : (t.size : Int) ≤ t.size := by omega
            have hmn : min (s.size : Int) (t.size : Int) = (t.size : Int) := by omega
            have hzz : t.extract 0 t.size = t := by simp
            cases hpx : ((s.extract 0 t.size).toList == (t.extract 0 t.size).toList)
            · have hlt2 : Op.bytesLess s.toList t.toList = true := (HLT.out (by simpa using hpx)).symm.trans HLX.out
              rw [hzz] at hpx
              clear hmm HLT hzz
              go_wp2
              go_quiet (fail)
              go_wp2
              go_quiet (fail)
              go_wp2
              go_ret
              exact ⟨rfl, HBW.out.trans' (by first | exact Below.refl _ _ | exact bel_drewN _ _ | exact (bel_drewN _ _).trans' (bel_drewN _ _))⟩
            · rw [hzz] at hpx
              clear hmm HLT hzz
              go_wp2
              go_quiet (fail)
              go_wp2
              go_quiet (fail)
              go_wp2
              go_ret
              exact ⟨rfl, HBW.out.trans' (by first | exact Below.refl _ _ | exact bel_drewN _ _ | exact (bel_drewN _ _).trans' (bel_drewN _ _))⟩
    · have hz3 : cmpD b c = 0 ∨ cmpD b c = 1 := (cmp_cases b c).resolve_left hz
      have hz4 : ¬ cmpD b c < 0 := by rcases hz3 with h | h <;> omega
      clear hz hz3
      generalize cmpD b c = y at hbc hz4
      go_wp2_with (fail)
      refine (hab.out _).mono ?_
      rintro e w8 ⟨rfl, hg⟩
      replace hA := hA.bel hg
      replace hB := hB.bel hg
      replace hC := hC.bel hg
      replace hb := hb.trans' hg
      clear hg
      clear c0 c1 c2 c3 c4 c5 c6 c7 c8 c9 c10
      clear d0 d1 d2 d3 d4 d5 d6 d7 d8 d9 d10
      obtain ⟨c0, c1, c2, c3, c4, c5, c6, c7, c8, c9, c10⟩ := hB.cells
      obtain ⟨d0, d1, d2, d3, d4, d5, d6, d7, d8, d9, d10⟩ := hA.cells
      go_wp2_with (fail)
      refine (hba.out _).mono ?_
      rintro e w9 ⟨rfl, hg⟩
      replace hA := hA.bel hg
      replace hB := hB.bel hg
      replace hC := hC.bel hg
      replace hb := hb.trans' hg
      clear hg
      clear c0 c1 c2 c3 c4 c5 c6 c7 c8 c9 c10
      clear d0 d1 d2 d3 d4 d5 d6 d7 d8 d9 d10
      obtain ⟨c0, c1, c2, c3, c4, c5, c6, c7, c8, c9, c10⟩ := hA.cells
      obtain ⟨d0, d1, d2, d3, d4, d5, d6, d7, d8, d9, d10⟩ := hB.cells
      clear c0 c1 c2 c3 c4 c5 c6 c7 c8 c9 c10
      clear d0 d1 d2 d3 d4 d5 d6 d7 d8 d9 d10
      obtain ⟨c0, c1, c2, c3, c4, c5, c6, c7, c8, c9, c10⟩ := hA.cells
      obtain ⟨d0, d1, d2, d3, d4, d5, d6, d7, d8, d9, d10⟩ := hB.cells
      obtain ⟨f0, f1, f2, f3, f4, f5, f6, f7, f8, f9, f10⟩ := hC.cells
      go_wp2_with (fail)
      refine (hbc.out _).mono ?_
      rintro e w10 ⟨rfl, hg⟩
      replace hA := hA.bel hg
      replace hB := hB.bel hg
      replace hC := hC.bel hg
      replace hb := hb.trans' hg
      clear hg
      clear c0 c1 c2 c3 c4 c5 c6 c7 c8 c9 c10
      clear d0 d1 d2 d3 d4 d5 d6 d7 d8 d9 d10
      clear f0 f1 f2 f3 f4 f5 f6 f7 f8 f9 f10
      obtain ⟨c0, c1, c2, c3, c4, c5, c6, c7, c8, c9, c10⟩ := hA.cells
      obtain ⟨d0, d1, d2, d3, d4, d5, d6, d7, d8, d9, d10⟩ := hC.cells
      clear c0 c1 c2 c3 c4 c5 c6 c7 c8 c9 c10
      clear d0 d1 d2 d3 d4 d5 d6 d7 d8 d9 d10
      obtain ⟨c0, c1, c2, c3, c4, c5, c6, c7, c8, c9, c10⟩ := hA.cells
      obtain ⟨d0, d1, d2, d3, d4, d5, d6, d7, d8, d9, d10⟩ := hB.cells
      have hs1 := fun e => (show (a.says.toList == b.says.toList) = true from toList_eq e)
      by_cases e0 : a.says = b.says
      case neg =>
        have f0 : (a.says.toList == b.says.toList) = false := toList_ne e0
        have g0 : (a.says.toList != b.says.toList) = true := by simp [bne, f0]
        clear hs1 e0
        go_wp2
        go_ret
        exact ⟨rfl, hb⟩
      by_cases e1 : a.pred = b.pred
      case neg =>
        have f1 : (a.pred.toList == b.pred.toList) = false := toList_ne e1
        have g1 : (a.pred.toList != b.pred.toList) = true := by simp [bne, f1]
        have f0 : (a.says.toList == b.says.toList) = true := toList_eq e0
        have g0 : (a.says.toList != b.says.toList) = false := by simp [bne, f0]
        clear hs1 e0 e1
        go_wp2
        go_ret
        exact ⟨rfl, hb⟩
      by_cases e2 : a.n = b.n
      case neg =>
        have f2 : (a.n == b.n) = false := by simpa using e2
        have g2 : (a.n != b.n) = true := by simp [bne, f2]
        have f0 : (a.says.toList == b.says.toList) = true := toList_eq e0
        have g0 : (a.says.toList != b.says.toList) = false := by simp [bne, f0]
        have f1 : (a.pred.toList == b.pred.toList) = true := toList_eq e1
        have g1 : (a.pred.toList != b.pred.toList) = false := by simp [bne, f1]
        clear hs1 e0 e1 e2
        go_wp2
        go_ret
        exact ⟨rfl, hb⟩
      have f0 : (a.says.toList == b.says.toList) = true := toList_eq e0
      have g0 : (a.says.toList != b.says.toList) = false := by simp [bne, f0]
      have f1 : (a.pred.toList == b.pred.toList) = true := toList_eq e1
      have g1 : (a.pred.toList != b.pred.toList) = false := by simp [bne, f1]
      have f2 : (a.n == b.n) = true := by simpa using e2
      have g2 : (a.n != b.n) = false := by simp [bne, f2]
      have E0 := Lib.hid e0
      have E1 := Lib.hid e1
      have E2 := Lib.hid e2
      clear e0 e1 e2 hs1
      have HA9 := Lib.hid hA
      have HB9 := Lib.hid hB
      have Hb := Lib.hid hb
      clear hA hB hC hb hab hba hbc hac hLa hLb hLc hKa hKb hKc
      go_wp2
      go_loopw [8] (fun i wr => ∃ k : Nat, (k : Int) ≤ a.n ∧ i = .int .i64 k ∧ RowKit.Hid (SameTo a b k) ∧ RowKit.Hid (Bel w wr) ∧ RowKit.Hid (AtomAt wr w.heap.size a) ∧ RowKit.Hid (AtomAt wr (w.heap.size + 1) b)) (fun i _ => a.n.toNat - (intOf i).toNat)
      case atStart => exact ⟨0, by omega, rfl, Lib.hid (same_zero _ _), Hb, HA9, HB9⟩
      case round =>
        obtain ⟨k, hk, rfl, HS, HBW, HAW, HBB⟩ := hrel
        clear HA9 HB9 Hb c0 c1 c3 c4 c5 c6 c7 c8 c9 c10 d0 d1 d2 d3 d4 d5 d6 d7 d8 d9 d10 c2
        have c2 := HAW.out.cells.2.2.1
        by_cases hlt : (k : Int) < a.n
        case neg =>
          have hkn : k = cntI a.n := by omega
          exact absurd (same_all QA.out QB.out E0.out E1.out E2.out (by rw [← hkn]; exact HS.out)) HNE.out
        have hk4 : k < 4 := by omega
        have hk0 : (0 : Int) ≤ k := by omega
        have hk5 : (k : Int) < 4 := by omega
        have n1 := HAW.out.nameCell hk4
        have n2 := HBB.out.nameCell hk4
        by_cases hst : nameAt a k = nameAt b k
        · have HS2 := Lib.hid (same_succ HS.out hst)
          have he : ((nameAt a k).toList == (nameAt b k).toList) = true := toList_eq hst
          clear hst
          generalize nameAt a k = s at n1 he
          generalize nameAt b k = t at n2 he
          go_wp2
          go_quiet (fail)
          go_wp2
          go_roundw
          case rel => exact ⟨k + 1, by omega, by go_num, HS2, Lib.hid (HBW.out.trans' (by first | exact Below.refl _ _ | exact bel_drewN _ _)), Lib.hid (HAW.out.bel (by first | exact Below.refl _ _ | exact bel_drewN _ _)), Lib.hid (HBB.out.bel (by first | exact Below.refl _ _ | exact bel_drewN _ _))⟩
          case measure => simp [intOf]; omega
        · have he : ((nameAt a k).toList == (nameAt b k).toList) = false := toList_ne hst
          have HLT := Lib.hid (ltA_at E0.out E1.out E2.out (show k < cntI a.n by omega) HS.out)
          clear hst
          generalize nameAt a k = s at n1 he HLT
          generalize nameAt b k = t at n2 he HLT
          rcases Nat.le_total s.size t.size with hm | hm
          · have hmi : (s.size : Int) ≤ t.size := by omega
            have hmm : min s.size t.size = s.size := by omega
            rw [hmm] at HLT
            have hm0 : (0 : Int) ≤ s.size := by omega
            have hm1 : (s.size : Int) ≤ s.size := by omega
            have hm2 : (t.size : Int) ≤ t.size := by omega
            have hmn : min (s.size : Int) (t.size : Int) = (s.size : Int) := by omega
            have hzz : s.extract 0 s.size = s := by simp
            cases hpx : ((s.extract 0 s.size).toList == (t.extract 0 s.size).toList)
            · have hlt2 : Op.bytesLess s.toList t.toList = true := (HLT.out (by simpa using hpx)).symm.trans HLX.out
              rw [hzz] at hpx
              clear hmm HLT hzz
              go_wp2
              go_quiet (fail)
              go_wp2
              go_quiet (fail)
              go_wp2
              go_ret
              exact ⟨rfl, HBW.out.trans' (by first | exact Below.refl _ _ | exact bel_drewN _ _ | exact (bel_drewN _ _).trans' (bel_drewN _ _))⟩
            · rw [hzz] at hpx
              clear hmm HLT hzz
              go_wp2
              go_quiet (fail)
              go_wp2
              go_quiet (fail)
              go_wp2
              go_ret
              exact ⟨rfl, HBW.out.trans' (by first | exact Below.refl _ _ | exact bel_drewN _ _ | exact (bel_drewN _ _).trans' (bel_drewN _ _))⟩
          · have hmi : (t.size : Int) ≤ s.size := by omega
            have hmm : min s.size t.size = t.size := by omega
            rw [hmm] at HLT
            have hm0 : (0 : Int) ≤ t.size := by omega
            have hm1 : (s.size : Int) ≤ s.size := by omega
            have hm2 : (t.size : Int) ≤ t.size := by omega
            have hmn : min (s.size : Int) (t.size : Int) = (t.size : Int) := by omega
            have hzz : t.extract 0 t.size = t := by simp
            cases hpx : ((s.extract 0 t.size).toList == (t.extract 0 t.size).toList)
            · have hlt2 : Op.bytesLess s.toList t.toList = true := (HLT.out (by simpa using hpx)).symm.trans HLX.out
              rw [hzz] at hpx
              clear hmm HLT hzz
              go_wp2
              go_quiet (fail)
              go_wp2
              go_quiet (fail)
              go_wp2
              go_ret
              exact ⟨rfl, HBW.out.trans' (by first | exact Below.refl _ _ | exact bel_drewN _ _ | exact (bel_drewN _ _).trans' (bel_drewN _ _))⟩
            · rw [hzz] at hpx
              clear hmm HLT hzz
              go_wp2
              go_quiet (fail)
              go_wp2
              go_quiet (fail)
              go_wp2
              go_ret
              exact ⟨rfl, HBW.out.trans' (by first | exact Below.refl _ _ | exact bel_drewN _ _ | exact (bel_drewN _ _).trans' (bel_drewN _ _))⟩
  · obtain rfl : a = b := text_inj QA.out QB.out (cmp_eq.1 hx)
    rw [hx] at hab hba
    have hqe := eql_atom a a
    rw [eqA_self a] at hqe
    clear hx
    go_wp2_with (fail)
    refine (hab.out _).mono ?_
    rintro e w8 ⟨rfl, hg⟩
    replace hA := hA.bel hg
    replace hB := hB.bel hg
    replace hC := hC.bel hg
    replace hb := hb.trans' hg
    clear hg
    clear c0 c1 c2 c3 c4 c5 c6 c7 c8 c9 c10
    clear d0 d1 d2 d3 d4 d5 d6 d7 d8 d9 d10
    obtain ⟨c0, c1, c2, c3, c4, c5, c6, c7, c8, c9, c10⟩ := hB.cells
    obtain ⟨d0, d1, d2, d3, d4, d5, d6, d7, d8, d9, d10⟩ := hA.cells
    go_wp2_with (fail)
    refine (hba.out _).mono ?_
    rintro e w9 ⟨rfl, hg⟩
    replace hA := hA.bel hg
    replace hB := hB.bel hg
    replace hC := hC.bel hg
    replace hb := hb.trans' hg
    clear hg
    clear c0 c1 c2 c3 c4 c5 c6 c7 c8 c9 c10
    clear d0 d1 d2 d3 d4 d5 d6 d7 d8 d9 d10
    obtain ⟨c0, c1, c2, c3, c4, c5, c6, c7, c8, c9, c10⟩ := hA.cells
    obtain ⟨d0, d1, d2, d3, d4, d5, d6, d7, d8, d9, d10⟩ := hB.cells
    clear c0 c1 c2 c3 c4 c5 c6 c7 c8 c9 c10
    clear d0 d1 d2 d3 d4 d5 d6 d7 d8 d9 d10
    obtain ⟨c0, c1, c2, c3, c4, c5, c6, c7, c8, c9, c10⟩ := hA.cells
    obtain ⟨d0, d1, d2, d3, d4, d5, d6, d7, d8, d9, d10⟩ := hB.cells
    have HA9 := Lib.hid hA
    have HB9 := Lib.hid hB
    have Hb := Lib.hid hb
    clear hA hB hC hb hab hba hbc hac hLa hLb hLc hKa hKb hKc
    go_wp2
    go_loopw [8] (fun i wr => ∃ k : Nat, (k : Int) ≤ a.n ∧ i = .int .i64 k ∧ RowKit.Hid (Bel w wr) ∧ RowKit.Hid (AtomAt wr w.heap.size a) ∧ RowKit.Hid (AtomAt wr (w.heap.size + 1) a)) (fun i _ => a.n.toNat - (intOf i).toNat)
    case atStart => exact ⟨0, by omega, rfl, Hb, HA9, HB9⟩
    case round =>
      obtain ⟨k, hk, rfl, HBW, HAW, HBB⟩ := hrel
      clear HA9 HB9 Hb c0 c1 c3 c4 c5 c6 c7 c8 c9 c10 d0 d1 d2 d3 d4 d5 d6 d7 d8 d9 d10 c2
      have c2 := HAW.out.cells.2.2.1
      by_cases hlt : (k : Int) < a.n
      case neg =>
        go_wp2
        go_ret
        exact ⟨rfl, HBW.out⟩
      have hk4 : k < 4 := by omega
      have hk0 : (0 : Int) ≤ k := by omega
      have hk5 : (k : Int) < 4 := by omega
      have n1 := HAW.out.nameCell hk4
      have n2 := HBB.out.nameCell hk4
      generalize nameAt a k = s at n1 n2
      have he : (s.toList == s.toList) = true := by simp
      go_wp2
      go_quiet (fail)
      go_wp2
      go_roundw
      case rel => exact ⟨k + 1, by omega, by go_num, Lib.hid (HBW.out.trans' (by first | exact Below.refl _ _ | exact bel_drewN _ _)), Lib.hid (HAW.out.bel (by first | exact Below.refl _ _ | exact bel_drewN _ _)), Lib.hid (HBB.out.bel (by first | exact Below.refl _ _ | exact bel_drewN _ _))⟩
      case measure => simp [intOf]; omega
  · have HNE : RowKit.Hid (¬ a = b) := Lib.hid (fun e => by rw [e, cmp_eq.2 rfl] at hx; cases hx)
    have hqe := eql_atom a b
    rw [show eqA a b = false from by cases q : eqA a b with | false => rfl | true => exact absurd ((eqA_iff _ _).1 q) HNE.out] at hqe
    have hy := cmp_neg b a
    rw [hx] at hab hy
    rw [hy] at hba
    have HLX : RowKit.Hid (ltA a b = false) := Lib.hid (ltA_asymm (cmp_gt.1 hx))
    clear hx hy
    go_wp2_with (fail)
    refine (hab.out _).mono ?_
    rintro e w8 ⟨rfl, hg⟩
    replace hA := hA.bel hg
    replace hB := hB.bel hg
    replace hC := hC.bel hg
    replace hb := hb.trans' hg
    clear hg
    clear c0 c1 c2 c3 c4 c5 c6 c7 c8 c9 c10
    clear d0 d1 d2 d3 d4 d5 d6 d7 d8 d9 d10
    obtain ⟨c0, c1, c2, c3, c4, c5, c6, c7, c8, c9, c10⟩ := hB.cells
    obtain ⟨d0, d1, d2, d3, d4, d5, d6, d7, d8, d9, d10⟩ := hA.cells
    go_wp2_with (fail)
    refine (hba.out _).mono ?_
    rintro e w9 ⟨rfl, hg⟩
    replace hA := hA.bel hg
    replace hB := hB.bel hg
    replace hC := hC.bel hg
    replace hb := hb.trans' hg
    clear hg
    clear c0 c1 c2 c3 c4 c5 c6 c7 c8 c9 c10
    clear d0 d1 d2 d3 d4 d5 d6 d7 d8 d9 d10
    obtain ⟨c0, c1, c2, c3, c4, c5, c6, c7, c8, c9, c10⟩ := hA.cells
    obtain ⟨d0, d1, d2, d3, d4, d5, d6, d7, d8, d9, d10⟩ := hB.cells
    clear c0 c1 c2 c3 c4 c5 c6 c7 c8 c9 c10
    clear d0 d1 d2 d3 d4 d5 d6 d7 d8 d9 d10
    obtain ⟨c0, c1, c2, c3, c4, c5, c6, c7, c8, c9, c10⟩ := hA.cells
    obtain ⟨d0, d1, d2, d3, d4, d5, d6, d7, d8, d9, d10⟩ := hB.cells
    have hs1 := fun e => (show (a.says.toList == b.says.toList) = true from toList_eq e)
    by_cases e0 : a.says = b.says
    case neg =>
      have f0 : (a.says.toList == b.says.toList) = false := toList_ne e0
      have g0 : (a.says.toList != b.says.toList) = true := by simp [bne, f0]
      clear hs1 e0
      go_wp2
      go_ret
      exact ⟨rfl, hb⟩
    by_cases e1 : a.pred = b.pred
    case neg =>
      have f1 : (a.pred.toList == b.pred.toList) = false := toList_ne e1
      have g1 : (a.pred.toList != b.pred.toList) = true := by simp [bne, f1]
      have f0 : (a.says.toList == b.says.toList) = true := toList_eq e0
      have g0 : (a.says.toList != b.says.toList) = false := by simp [bne, f0]
      clear hs1 e0 e1
      go_wp2
      go_ret
      exact ⟨rfl, hb⟩
    by_cases e2 : a.n = b.n
    case neg =>
      have f2 : (a.n == b.n) = false := by simpa using e2
      have g2 : (a.n != b.n) = true := by simp [bne, f2]
      have f0 : (a.says.toList == b.says.toList) = true := toList_eq e0
      have g0 : (a.says.toList != b.says.toList) = false := by simp [bne, f0]
      have f1 : (a.pred.toList == b.pred.toList) = true := toList_eq e1
      have g1 : (a.pred.toList != b.pred.toList) = false := by simp [bne, f1]
      clear hs1 e0 e1 e2
      go_wp2
      go_ret
      exact ⟨rfl, hb⟩
    have f0 : (a.says.toList == b.says.toList) = true := toList_eq e0
    have g0 : (a.says.toList != b.says.toList) = false := by simp [bne, f0]
    have f1 : (a.pred.toList == b.pred.toList) = true := toList_eq e1
    have g1 : (a.pred.toList != b.pred.toList) = false := by simp [bne, f1]
    have f2 : (a.n == b.n) = true := by simpa using e2
    have g2 : (a.n != b.n) = false := by simp [bne, f2]
    have E0 := Lib.hid e0
    have E1 := Lib.hid e1
    have E2 := Lib.hid e2
    clear e0 e1 e2 hs1
    have HA9 := Lib.hid hA
    have HB9 := Lib.hid hB
    have Hb := Lib.hid hb
    clear hA hB hC hb hab hba hbc hac hLa hLb hLc hKa hKb hKc
    go_wp2
    go_loopw [8] (fun i wr => ∃ k : Nat, (k : Int) ≤ a.n ∧ i = .int .i64 k ∧ RowKit.Hid (SameTo a b k) ∧ RowKit.Hid (Bel w wr) ∧ RowKit.Hid (AtomAt wr w.heap.size a) ∧ RowKit.Hid (AtomAt wr (w.heap.size + 1) b)) (fun i _ => a.n.toNat - (intOf i).toNat)
    case atStart => exact ⟨0, by omega, rfl, Lib.hid (same_zero _ _), Hb, HA9, HB9⟩
    case round =>
      obtain ⟨k, hk, rfl, HS, HBW, HAW, HBB⟩ := hrel
      clear HA9 HB9 Hb c0 c1 c3 c4 c5 c6 c7 c8 c9 c10 d0 d1 d2 d3 d4 d5 d6 d7 d8 d9 d10 c2
      have c2 := HAW.out.cells.2.2.1
      by_cases hlt : (k : Int) < a.n
      case neg =>
        have hkn : k = cntI a.n := by omega
        exact absurd (same_all QA.out QB.out E0.out E1.out E2.out (by rw [← hkn]; exact HS.out)) HNE.out
      have hk4 : k < 4 := by omega
      have hk0 : (0 : Int) ≤ k := by omega
      have hk5 : (k : Int) < 4 := by omega
      have n1 := HAW.out.nameCell hk4
      have n2 := HBB.out.nameCell hk4
      by_cases hst : nameAt a k = nameAt b k
      · have HS2 := Lib.hid (same_succ HS.out hst)
        have he : ((nameAt a k).toList == (nameAt b k).toList) = true := toList_eq hst
        clear hst
        generalize nameAt a k = s at n1 he
        generalize nameAt b k = t at n2 he
        go_wp2
        go_quiet (fail)
        go_wp2
        go_roundw
        case rel => exact ⟨k + 1, by omega, by go_num, HS2, Lib.hid (HBW.out.trans' (by first | exact Below.refl _ _ | exact bel_drewN _ _)), Lib.hid (HAW.out.bel (by first | exact Below.refl _ _ | exact bel_drewN _ _)), Lib.hid (HBB.out.bel (by first | exact Below.refl _ _ | exact bel_drewN _ _))⟩
        case measure => simp [intOf]; omega
      · have he : ((nameAt a k).toList == (nameAt b k).toList) = false := toList_ne hst
        have HLT := Lib.hid (ltA_at E0.out E1.out E2.out (show k < cntI a.n by omega) HS.out)
        clear hst
        generalize nameAt a k = s at n1 he HLT
        generalize nameAt b k = t at n2 he HLT
        rcases Nat.le_total s.size t.size with hm | hm
        · have hmi : (s.size : Int) ≤ t.size := by omega
          have hmm : min s.size t.size = s.size := by omega
          rw [hmm] at HLT
          have hm0 : (0 : Int) ≤ s.size := by omega
          have hm1 : (s.size : Int) ≤ s.size := by omega
          have hm2 : (t.size : Int) ≤ t.size := by omega
          have hmn : min (s.size : Int) (t.size : Int) = (s.size : Int) := by omega
          have hzz : s.extract 0 s.size = s := by simp
          cases hpx : ((s.extract 0 s.size).toList == (t.extract 0 s.size).toList)
          · have hlt2 : Op.bytesLess s.toList t.toList = false := (HLT.out (by simpa using hpx)).symm.trans HLX.out
            rw [hzz] at hpx
            clear hmm HLT hzz
            go_wp2
            go_quiet (fail)
            go_wp2
            go_quiet (fail)
            go_wp2
            go_ret
            exact ⟨rfl, HBW.out.trans' (by first | exact Below.refl _ _ | exact bel_drewN _ _ | exact (bel_drewN _ _).trans' (bel_drewN _ _))⟩
          · rw [hzz] at hpx
            clear hmm HLT hzz
            go_wp2
            go_quiet (fail)
            go_wp2
            go_quiet (fail)
            go_wp2
            go_ret
            exact ⟨rfl, HBW.out.trans' (by first | exact Below.refl _ _ | exact bel_drewN _ _ | exact (bel_drewN _ _).trans' (bel_drewN _ _))⟩
        · have hmi : (t.size : Int) ≤ s.size := by omega
          have hmm : min s.size t.size = t.size := by omega
          rw [hmm] at HLT
          have hm0 : (0 : Int) ≤ t.size := by omega
          have hm1 : (s.size : Int) ≤ s.size := by omega
          have hm2 : (t.size : Int) ≤ t.size := by omega
          have hmn : min (s.size : Int) (t.size : Int) = (t.size : Int) := by omega
          have hzz : t.extract 0 t.size = t := by simp
          cases hpx : ((s.extract 0 t.size).toList == (t.extract 0 t.size).toList)
          · have hlt2 : Op.bytesLess s.toList t.toList = false := (HLT.out (by simpa using hpx)).symm.trans HLX.out
            rw [hzz] at hpx
            clear hmm HLT hzz
            go_wp2
            go_quiet (fail)
            go_wp2
            go_quiet (fail)
            go_wp2
            go_ret
            exact ⟨rfl, HBW.out.trans' (by first | exact Below.refl _ _ | exact bel_drewN _ _ | exact (bel_drewN _ _).trans' (bel_drewN _ _))⟩
          · rw [hzz] at hpx
            clear hmm HLT hzz
            go_wp2
            go_quiet (fail)
            go_wp2
            go_quiet (fail)
            go_wp2
            go_ret
            exact ⟨rfl, HBW.out.trans' (by first | exact Below.refl _ _ | exact bel_drewN _ _ | exact (bel_drewN _ _).trans' (bel_drewN _ _))⟩
end Go.Proofs.Ytamghlneoglfnaa
