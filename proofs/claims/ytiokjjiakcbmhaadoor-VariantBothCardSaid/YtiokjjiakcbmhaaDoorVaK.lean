/-
  The law VariantBoth for every input. Conditions: what came in lies as its parameters' types say.
-/
import Derived.Test.YtiokjjiakcbmhaaDoorVaG
namespace Go.Proofs.YtiokjjiakcbmhaaDoor
open Go.RowKit

theorem key_flag {a b : AtomD} (ha : checkD a = 0) (hb : checkD b = 0) {s : Bool} (h : s = eqA (canonD a) (canonD b)) : ((textD (canonD a)).toList == (textD (canonD b)).toList) = s := by rw [h]; exact key_same ha hb
set_option maxRecDepth 20000 in
set_option maxHeartbeats 16000000 in
theorem lawVariantBoth (a b : AtomD) (w : World) (hak : AtomOk a) (hbk : AtomOk b) :
    Calls Tryd.prog 4 #[.agg #[.string a.says, .string a.pred, .int .i64 a.n, .bool a.t0.v, .string a.t0.name, .bool a.t1.v, .string a.t1.name, .bool a.t2.v, .string a.t2.name, .bool a.t3.v, .string a.t3.name], .agg #[.string b.says, .string b.pred, .int .i64 b.n, .bool b.t0.v, .string b.t0.name, .bool b.t1.v, .string b.t1.name, .bool b.t2.v, .string b.t2.name, .bool b.t3.v, .string b.t3.name]] w fun e w' => e = .returned (.bool true) ∧ Bel w w' := by
  have hP := AtomAt.new w a
  replace hP := hP.bel (bel_alloc (w.alloc (.cells #[.string a.says, .string a.pred, .int .i64 a.n, .bool a.t0.v, .string a.t0.name, .bool a.t1.v, .string a.t1.name, .bool a.t2.v, .string a.t2.name, .bool a.t3.v, .string a.t3.name] 27)) (.cells #[.string b.says, .string b.pred, .int .i64 b.n, .bool b.t0.v, .string b.t0.name, .bool b.t1.v, .string b.t1.name, .bool b.t2.v, .string b.t2.name, .bool b.t3.v, .string b.t3.name] 27))
  have hQ := AtomAt.new (w.alloc (.cells #[.string a.says, .string a.pred, .int .i64 a.n, .bool a.t0.v, .string a.t0.name, .bool a.t1.v, .string a.t1.name, .bool a.t2.v, .string a.t2.name, .bool a.t3.v, .string a.t3.name] 27)) b
  rw [show (w.alloc (.cells #[.string a.says, .string a.pred, .int .i64 a.n, .bool a.t0.v, .string a.t0.name, .bool a.t1.v, .string a.t1.name, .bool a.t2.v, .string a.t2.name, .bool a.t3.v, .string a.t3.name] 27)).heap.size = w.heap.size + 1 by simp] at hQ
  have hb := (bel_alloc w (.cells #[.string a.says, .string a.pred, .int .i64 a.n, .bool a.t0.v, .string a.t0.name, .bool a.t1.v, .string a.t1.name, .bool a.t2.v, .string a.t2.name, .bool a.t3.v, .string a.t3.name] 27)).trans' (bel_alloc (w.alloc (.cells #[.string a.says, .string a.pred, .int .i64 a.n, .bool a.t0.v, .string a.t0.name, .bool a.t1.v, .string a.t1.name, .bool a.t2.v, .string a.t2.name, .bool a.t3.v, .string a.t3.name] 27)) (.cells #[.string b.says, .string b.pred, .int .i64 b.n, .bool b.t0.v, .string b.t0.name, .bool b.t1.v, .string b.t1.name, .bool b.t2.v, .string b.t2.name, .bool b.t3.v, .string b.t3.name] 27))
  have hLa := Lib.hid (fun W => light_any a W hak)
  have hKa := Lib.hid (fun W => rCheck_any a W hak)
  have hLb := Lib.hid (fun W => light_any b W hbk)
  have hKb := Lib.hid (fun W => rCheck_any b W hbk)
  cases q0 : lightA a
  case false =>
    rw [q0] at hLa
    clear q0
    go_enter Tryd.func4, Tryd.ntmps4
    go_wp2_with (fail)
    refine (lives7_any _).mono ?_
    rintro e w1 ⟨rfl, hg⟩
    replace hP := hP.bel hg
    replace hQ := hQ.bel hg
    replace hb := hb.trans' hg
    clear hg
    obtain ⟨c0, c1, c2, c3, c4, c5, c6, c7, c8, c9, c10⟩ := hP.cells
    go_wp2_with (fail)
    refine (hLa.out _).mono ?_
    rintro e w2 ⟨rfl, hg⟩
    replace hP := hP.bel hg
    replace hQ := hQ.bel hg
    replace hb := hb.trans' hg
    clear hg
    clear c0 c1 c2 c3 c4 c5 c6 c7 c8 c9 c10
    obtain ⟨c0, c1, c2, c3, c4, c5, c6, c7, c8, c9, c10⟩ := hQ.cells
    go_wp2
    go_ret
    exact ⟨rfl, hb⟩
  rw [q0] at hLa
  cases q1 : lightA b
  case false =>
    rw [q1] at hLb
    clear q1 q0
    go_enter Tryd.func4, Tryd.ntmps4
    go_wp2_with (fail)
    refine (lives7_any _).mono ?_
    rintro e w1 ⟨rfl, hg⟩
    replace hP := hP.bel hg
    replace hQ := hQ.bel hg
    replace hb := hb.trans' hg
    clear hg
    obtain ⟨c0, c1, c2, c3, c4, c5, c6, c7, c8, c9, c10⟩ := hP.cells
    go_wp2_with (fail)
    refine (hLa.out _).mono ?_
    rintro e w2 ⟨rfl, hg⟩
    replace hP := hP.bel hg
    replace hQ := hQ.bel hg
    replace hb := hb.trans' hg
    clear hg
    clear c0 c1 c2 c3 c4 c5 c6 c7 c8 c9 c10
    obtain ⟨c0, c1, c2, c3, c4, c5, c6, c7, c8, c9, c10⟩ := hQ.cells
    go_wp2_with (fail)
    refine (hLb.out _).mono ?_
    rintro e w3 ⟨rfl, hg⟩
    replace hP := hP.bel hg
    replace hQ := hQ.bel hg
    replace hb := hb.trans' hg
    clear hg
    clear c0 c1 c2 c3 c4 c5 c6 c7 c8 c9 c10
    obtain ⟨c0, c1, c2, c3, c4, c5, c6, c7, c8, c9, c10⟩ := hP.cells
    go_wp2
    go_ret
    exact ⟨rfl, hb⟩
  rw [q1] at hLb
  by_cases q2 : checkD a = 0
  case neg =>
    have hz : (checkD a != 0) = true := by simpa using q2
    have hz2 : (checkD a == 0) = false := by simpa using q2
    clear q0 q1 q2
    go_enter Tryd.func4, Tryd.ntmps4
    go_wp2_with (fail)
    refine (lives7_any _).mono ?_
    rintro e w1 ⟨rfl, hg⟩
    replace hP := hP.bel hg
    replace hQ := hQ.bel hg
    replace hb := hb.trans' hg
    clear hg
    obtain ⟨c0, c1, c2, c3, c4, c5, c6, c7, c8, c9, c10⟩ := hP.cells
    go_wp2_with (fail)
    refine (hLa.out _).mono ?_
    rintro e w2 ⟨rfl, hg⟩
    replace hP := hP.bel hg
    replace hQ := hQ.bel hg
    replace hb := hb.trans' hg
    clear hg
    clear c0 c1 c2 c3 c4 c5 c6 c7 c8 c9 c10
    obtain ⟨c0, c1, c2, c3, c4, c5, c6, c7, c8, c9, c10⟩ := hQ.cells
    go_wp2_with (fail)
    refine (hLb.out _).mono ?_
    rintro e w3 ⟨rfl, hg⟩
    replace hP := hP.bel hg
    replace hQ := hQ.bel hg
    replace hb := hb.trans' hg
    clear hg
    clear c0 c1 c2 c3 c4 c5 c6 c7 c8 c9 c10
    obtain ⟨c0, c1, c2, c3, c4, c5, c6, c7, c8, c9, c10⟩ := hP.cells
    go_wp2_with (fail)
    refine (hKa.out _).mono ?_
    rintro e w4 ⟨rfl, hg⟩
    replace hP := hP.bel hg
    replace hQ := hQ.bel hg
    replace hb := hb.trans' hg
    clear hg
    clear c0 c1 c2 c3 c4 c5 c6 c7 c8 c9 c10
    obtain ⟨c0, c1, c2, c3, c4, c5, c6, c7, c8, c9, c10⟩ := hQ.cells
    go_wp2
    go_ret
    exact ⟨rfl, hb⟩
  rw [q2] at hKa
  by_cases q3 : checkD b = 0
  case neg =>
    have hz : (checkD b != 0) = true := by simpa using q3
    have hz2 : (checkD b == 0) = false := by simpa using q3
    clear q0 q1 q2 q3
    go_enter Tryd.func4, Tryd.ntmps4
    go_wp2_with (fail)
    refine (lives7_any _).mono ?_
    rintro e w1 ⟨rfl, hg⟩
    replace hP := hP.bel hg
    replace hQ := hQ.bel hg
    replace hb := hb.trans' hg
    clear hg
    obtain ⟨c0, c1, c2, c3, c4, c5, c6, c7, c8, c9, c10⟩ := hP.cells
    go_wp2_with (fail)
    refine (hLa.out _).mono ?_
    rintro e w2 ⟨rfl, hg⟩
    replace hP := hP.bel hg
    replace hQ := hQ.bel hg
    replace hb := hb.trans' hg
    clear hg
    clear c0 c1 c2 c3 c4 c5 c6 c7 c8 c9 c10
    obtain ⟨c0, c1, c2, c3, c4, c5, c6, c7, c8, c9, c10⟩ := hQ.cells
    go_wp2_with (fail)
    refine (hLb.out _).mono ?_
    rintro e w3 ⟨rfl, hg⟩
    replace hP := hP.bel hg
    replace hQ := hQ.bel hg
    replace hb := hb.trans' hg
    clear hg
    clear c0 c1 c2 c3 c4 c5 c6 c7 c8 c9 c10
    obtain ⟨c0, c1, c2, c3, c4, c5, c6, c7, c8, c9, c10⟩ := hP.cells
    go_wp2_with (fail)
    refine (hKa.out _).mono ?_
    rintro e w4 ⟨rfl, hg⟩
    replace hP := hP.bel hg
    replace hQ := hQ.bel hg
    replace hb := hb.trans' hg
    clear hg
    clear c0 c1 c2 c3 c4 c5 c6 c7 c8 c9 c10
    obtain ⟨c0, c1, c2, c3, c4, c5, c6, c7, c8, c9, c10⟩ := hQ.cells
    go_wp2_with (fail)
    refine (hKb.out _).mono ?_
    rintro e w5 ⟨rfl, hg⟩
    replace hP := hP.bel hg
    replace hQ := hQ.bel hg
    replace hb := hb.trans' hg
    clear hg
    clear c0 c1 c2 c3 c4 c5 c6 c7 c8 c9 c10
    obtain ⟨c0, c1, c2, c3, c4, c5, c6, c7, c8, c9, c10⟩ := hP.cells
    go_wp2
    go_ret
    exact ⟨rfl, hb⟩
  rw [q3] at hKb
  have sa := AtomOk.sm q0
  have sb := AtomOk.sm q1
  obtain ⟨y, hy⟩ : ∃ y, y = canonD a := ⟨_, rfl⟩
  have hyy : canonD y = y := by rw [hy]; exact canon_canon a
  have sy : AtomSm y := by rw [hy]; exact canon_sm sa
  have hyk : AtomOk y := by rw [hy]; exact canon_aok hak
  obtain ⟨sm, hsm⟩ : ∃ s, s = eqA (canonD a) (canonD b) := ⟨_, rfl⟩
  have HSU : RowKit.Hid (sm = (underD a b && underD b a)) := Lib.hid (by rw [hsm]; exact canon_iff q2 q3)
  obtain ⟨ka, hka⟩ : ∃ k, k = textD (canonD a) := ⟨_, rfl⟩
  obtain ⟨kb, hkb⟩ : ∃ k, k = textD (canonD b) := ⟨_, rfl⟩
  have HKE : RowKit.Hid ((ka.toList == kb.toList) = sm) := Lib.hid (by rw [hka, hkb]; exact key_flag q2 q3 hsm)
  obtain ⟨gr, hgr⟩ : ∃ g, g = groundD a := ⟨_, rfl⟩
  have HGE : RowKit.Hid (gr = (eqA y a && gr)) := Lib.hid (by rw [hgr, hy]; have := ground_same a; rwa [ground_canon] at this)
  have hgy : groundD y = gr := by rw [hy, ground_canon, hgr]
  have hCy0 : checkD y = 0 := by rw [hy]; exact canon_ok q2
  have hC := Lib.hid (fun W => Canon_any a W sa.args)
  have hS := Lib.hid (fun W => SameV_any a b W sa.args sb.args)
  have hSy := Lib.hid (fun W => SameV_any a y W sa.args sy.args)
  have hCy := Lib.hid (fun W => Canon_any y W sy.args)
  have hKy := Lib.hid (fun W => rCheck_any y W hyk)
  have hTa := Lib.hid (fun W => KeyV_any a W sa)
  have hTb := Lib.hid (fun W => KeyV_any b W sb)
  have hGa := Lib.hid (fun W => rGround_any a W)
  have hGy := Lib.hid (fun W => rGround_any y W)
  have hU1 := Lib.hid (fun W => rUnder_any a b W)
  have hU2 := Lib.hid (fun W => rUnder_any b a W)
  rw [← hy] at hC
  rw [← hsm] at hS
  rw [show eqA (canonD a) (canonD y) = true by rw [hy]; exact canon_self a] at hSy
  rw [hyy] at hCy
  rw [hCy0] at hKy
  rw [← hka] at hTa
  rw [← hkb] at hTb
  rw [← hgr] at hGa
  rw [hgy] at hGy
  have hc1 := eql_atom y y
  rw [eqA_self y] at hc1
  have hc4 := eql_atom y a
  have hc3 : (gr == gr) = true := by simp
  clear q0 q1 q2 q3 sa sb sy hy hyy hyk hsm hka hkb hgr hgy hCy0 hak hbk
  go_enter Tryd.func4, Tryd.ntmps4
  go_wp2_with (fail)
  refine (lives7_any _).mono ?_
  rintro e w1 ⟨rfl, hg⟩
  replace hP := hP.bel hg
  replace hQ := hQ.bel hg
  replace hb := hb.trans' hg
  clear hg
  obtain ⟨c0, c1, c2, c3, c4, c5, c6, c7, c8, c9, c10⟩ := hP.cells
  go_wp2_with (fail)
  refine (hLa.out _).mono ?_
  rintro e w2 ⟨rfl, hg⟩
  replace hP := hP.bel hg
  replace hQ := hQ.bel hg
  replace hb := hb.trans' hg
  clear hg
  clear c0 c1 c2 c3 c4 c5 c6 c7 c8 c9 c10
  obtain ⟨c0, c1, c2, c3, c4, c5, c6, c7, c8, c9, c10⟩ := hQ.cells
  go_wp2_with (fail)
  refine (hLb.out _).mono ?_
  rintro e w3 ⟨rfl, hg⟩
  replace hP := hP.bel hg
  replace hQ := hQ.bel hg
  replace hb := hb.trans' hg
  clear hg
  clear c0 c1 c2 c3 c4 c5 c6 c7 c8 c9 c10
  obtain ⟨c0, c1, c2, c3, c4, c5, c6, c7, c8, c9, c10⟩ := hP.cells
  go_wp2_with (fail)
  refine (hKa.out _).mono ?_
  rintro e w4 ⟨rfl, hg⟩
  replace hP := hP.bel hg
  replace hQ := hQ.bel hg
  replace hb := hb.trans' hg
  clear hg
  clear c0 c1 c2 c3 c4 c5 c6 c7 c8 c9 c10
  obtain ⟨c0, c1, c2, c3, c4, c5, c6, c7, c8, c9, c10⟩ := hQ.cells
  go_wp2_with (fail)
  refine (hKb.out _).mono ?_
  rintro e w5 ⟨rfl, hg⟩
  replace hP := hP.bel hg
  replace hQ := hQ.bel hg
  replace hb := hb.trans' hg
  clear hg
  clear c0 c1 c2 c3 c4 c5 c6 c7 c8 c9 c10
  obtain ⟨c0, c1, c2, c3, c4, c5, c6, c7, c8, c9, c10⟩ := hP.cells
  go_wp2_with (fail)
  refine (hC.out _).mono ?_
  rintro e w6 ⟨⟨q, HQ, rfl⟩, hg⟩
  obtain rfl := HQ.out.symm
  have hY := AtomAt.new w6 y
  have hg2 := hg.trans' (bel_alloc w6 (.cells #[.string y.says, .string y.pred, .int .i64 y.n, .bool y.t0.v, .string y.t0.name, .bool y.t1.v, .string y.t1.name, .bool y.t2.v, .string y.t2.name, .bool y.t3.v, .string y.t3.name] 27))
  replace hP := hP.bel hg2
  replace hQ := hQ.bel hg2
  replace hb := hb.trans' hg2
  clear hg hg2 hC HQ hLa hLb hKa hKb
  clear c0 c1 c2 c3 c4 c5 c6 c7 c8 c9 c10
  obtain ⟨c0, c1, c2, c3, c4, c5, c6, c7, c8, c9, c10⟩ := hP.cells
  obtain ⟨d0, d1, d2, d3, d4, d5, d6, d7, d8, d9, d10⟩ := hQ.cells
  cases hu : underD a b
  case false =>
    rw [hu] at hU1
    obtain rfl : sm = false := by rw [HSU.out, hu]; rfl
    have hc2 := HKE.out
    clear HSU hu HKE
    go_wp2_with (fail)
    refine (hU1.out _).mono ?_
    rintro e w7 ⟨rfl, hg⟩
    replace hP := hP.bel hg
    replace hQ := hQ.bel hg
    replace hY := hY.bel hg
    replace hb := hb.trans' hg
    clear hg
    clear c0 c1 c2 c3 c4 c5 c6 c7 c8 c9 c10
    clear d0 d1 d2 d3 d4 d5 d6 d7 d8 d9 d10
    obtain ⟨c0, c1, c2, c3, c4, c5, c6, c7, c8, c9, c10⟩ := hP.cells
    obtain ⟨d0, d1, d2, d3, d4, d5, d6, d7, d8, d9, d10⟩ := hQ.cells
    have hS2 := hS
    cases he : eqA y a
    case false =>
      obtain rfl : gr = false := by have := HGE.out; rw [he] at this; exact this
      rw [he] at hc4
      clear he HGE
      have hd : Bel w7 w7.drew := bel_drew' (Below.refl _ _)
      have HB := Lib.hid hb
      clear hb hU1 hU2
      replace hP := hP.drew
      replace hQ := hQ.drew
      replace hY := hY.drew
      go_wp2
      refine wp_region_held_drew (S := (fun w' => (w'.cell? ⟨w.heap.size, 0, none⟩ = some (.string a.says) ∧ w'.cell? ⟨w.heap.size, 1, none⟩ = some (.string a.pred) ∧ w'.cell? ⟨w.heap.size, 2, none⟩ = some (.int .i64 a.n) ∧ w'.cell? ⟨w.heap.size, 3, none⟩ = some (.bool a.t0.v) ∧ w'.cell? ⟨w.heap.size, 4, none⟩ = some (.string a.t0.name) ∧ w'.cell? ⟨w.heap.size, 5, none⟩ = some (.bool a.t1.v) ∧ w'.cell? ⟨w.heap.size, 6, none⟩ = some (.string a.t1.name) ∧ w'.cell? ⟨w.heap.size, 7, none⟩ = some (.bool a.t2.v) ∧ w'.cell? ⟨w.heap.size, 8, none⟩ = some (.string a.t2.name) ∧ w'.cell? ⟨w.heap.size, 9, none⟩ = some (.bool a.t3.v) ∧ w'.cell? ⟨w.heap.size, 10, none⟩ = some (.string a.t3.name)) ∧ (w'.cell? ⟨w.heap.size + 1, 0, none⟩ = some (.string b.says) ∧ w'.cell? ⟨w.heap.size + 1, 1, none⟩ = some (.string b.pred) ∧ w'.cell? ⟨w.heap.size + 1, 2, none⟩ = some (.int .i64 b.n) ∧ w'.cell? ⟨w.heap.size + 1, 3, none⟩ = some (.bool b.t0.v) ∧ w'.cell? ⟨w.heap.size + 1, 4, none⟩ = some (.string b.t0.name) ∧ w'.cell? ⟨w.heap.size + 1, 5, none⟩ = some (.bool b.t1.v) ∧ w'.cell? ⟨w.heap.size + 1, 6, none⟩ = some (.string b.t1.name) ∧ w'.cell? ⟨w.heap.size + 1, 7, none⟩ = some (.bool b.t2.v) ∧ w'.cell? ⟨w.heap.size + 1, 8, none⟩ = some (.string b.t2.name) ∧ w'.cell? ⟨w.heap.size + 1, 9, none⟩ = some (.bool b.t3.v) ∧ w'.cell? ⟨w.heap.size + 1, 10, none⟩ = some (.string b.t3.name)) ∧ (w'.cell? ⟨w6.heap.size, 0, none⟩ = some (.string y.says) ∧ w'.cell? ⟨w6.heap.size, 1, none⟩ = some (.string y.pred) ∧ w'.cell? ⟨w6.heap.size, 2, none⟩ = some (.int .i64 y.n) ∧ w'.cell? ⟨w6.heap.size, 3, none⟩ = some (.bool y.t0.v) ∧ w'.cell? ⟨w6.heap.size, 4, none⟩ = some (.string y.t0.name) ∧ w'.cell? ⟨w6.heap.size, 5, none⟩ = some (.bool y.t1.v) ∧ w'.cell? ⟨w6.heap.size, 6, none⟩ = some (.string y.t1.name) ∧ w'.cell? ⟨w6.heap.size, 7, none⟩ = some (.bool y.t2.v) ∧ w'.cell? ⟨w6.heap.size, 8, none⟩ = some (.string y.t2.name) ∧ w'.cell? ⟨w6.heap.size, 9, none⟩ = some (.bool y.t3.v) ∧ w'.cell? ⟨w6.heap.size, 10, none⟩ = some (.string y.t3.name)))) (by kernel_rfl) (⟨hP.cells, hQ.cells, hY.cells⟩) (fun hHeld => ?_)
      refine wpAnyH_take (i := 0) (oi := { dst := some 37, op := Go.Op.load 27 (Go.Operand.tmp 2), type := 27, pos := "law.go:53", after := #[], guard := none }) (v := ?_) rfl (by kernel_rfl) (by kernel_rfl) (by kernel_rfl) (fun _ _ _ h => h) (Or.inl ⟨by rfl, ?_⟩) hHeld ?_
      rotate_left
      · (intro w hSw; (try dsimp only at hSw); go_simp)
        all_goals with_reducible rfl
      try simp only [Act.put, List.setIfInBounds_toArray, List.set_cons_zero, List.set_cons_succ]
      refine wpAnyH_take (i := 1) (oi := { dst := some 38, op := Go.Op.load 27 (Go.Operand.tmp 3), type := 27, pos := "law.go:53", after := #[], guard := none }) (v := ?_) rfl (by kernel_rfl) (by kernel_rfl) (by kernel_rfl) (fun _ _ _ h => h) (Or.inl ⟨by rfl, ?_⟩) hHeld ?_
      rotate_left
      · (intro w hSw; (try dsimp only at hSw); go_simp)
        all_goals with_reducible rfl
      try simp only [Act.put, List.setIfInBounds_toArray, List.set_cons_zero, List.set_cons_succ]
      refine wpAnyH_take (i := 3) (oi := { dst := some 40, op := Go.Op.move (Go.Operand.tmp 6), type := 4, pos := "law.go:53", after := #[], guard := none }) (v := ?_) rfl (by kernel_rfl) (by kernel_rfl) (by kernel_rfl) (fun _ _ _ h => h) (Or.inl ⟨by rfl, ?_⟩) hHeld ?_
      rotate_left
      · (intro w hSw; (try dsimp only at hSw); go_simp)
        all_goals with_reducible rfl
      try simp only [Act.put, List.setIfInBounds_toArray, List.set_cons_zero, List.set_cons_succ]
      refine wpAnyH_ready (rs := [2]) (by kernel_rfl) (by simp) ?_
      refine AllReadyH.cons (o := { dst := some 39, op := Go.Op.call { callee := Go.Callee.value (Go.Operand.func 11), args := #[Go.Operand.tmp 37, Go.Operand.tmp 38], argTypes := #[27, 27] }, type := 4, pos := "law.go:53", after := #[{ on := 0, ground := Go.Ground.data }, { on := 1, ground := Go.Ground.data }], guard := none }) rfl (fun K hK => ?_) AllReadyH.nil
      go_simp
      go_at_call 11
      refine (hS.out _).mono ?_
      rintro e w9 ⟨rfl, hg⟩
      replace hP := hP.bel hg; replace hQ := hQ.bel hg; replace hY := hY.bel hg; replace hd := hd.trans' hg; clear hg
      first | refine hK.out _ _ ?_ (fun hHeld => ?_) | (go_wp2_with fail; refine hK.out _ _ ?_ (fun hHeld => ?_))
      · (try dsimp only); exact ⟨hP.cells, hQ.cells, hY.cells⟩
      clear hK K
      try simp only [Act.put, List.setIfInBounds_toArray, List.set_cons_zero, List.set_cons_succ]
      refine wpAnyH_take (i := 4) (oi := { dst := some 41, op := Go.Op.binOp Go.BinOp.eql 4 (Go.Operand.tmp 39) (Go.Operand.tmp 40) 4, type := 4, pos := "law.go:53", after := #[{ on := 2, ground := Go.Ground.data }, { on := 3, ground := Go.Ground.data }], guard := none }) (v := ?_) rfl (by kernel_rfl) (by kernel_rfl) (by kernel_rfl) (fun _ _ _ h => h) (Or.inl ⟨by rfl, ?_⟩) hHeld ?_
      rotate_left
      · (intro w hSw; (try dsimp only at hSw); go_simp)
        all_goals with_reducible rfl
      try simp only [Act.put, List.setIfInBounds_toArray, List.set_cons_zero, List.set_cons_succ]
      refine wpAnyH_take (i := 5) (oi := { dst := some 42, op := Go.Op.move (Go.Operand.tmp 41), type := 4, pos := "law.go:53", after := #[{ on := 4, ground := Go.Ground.data }, { on := 2, ground := Go.Ground.chain }], guard := none }) (v := ?_) rfl (by kernel_rfl) (by kernel_rfl) (by kernel_rfl) (fun _ _ _ h => h) (Or.inl ⟨by rfl, ?_⟩) hHeld ?_
      rotate_left
      · (intro w hSw; (try dsimp only at hSw); go_simp)
        all_goals with_reducible rfl
      try simp only [Act.put, List.setIfInBounds_toArray, List.set_cons_zero, List.set_cons_succ]
      refine wpAnyH_take (i := 6) (oi := { dst := some 43, op := Go.Op.load 27 (Go.Operand.tmp 2), type := 27, pos := "law.go:53", after := #[{ on := 5, ground := Go.Ground.guard }], guard := some (5, true) }) (v := ?_) rfl (by kernel_rfl) (by kernel_rfl) (by kernel_rfl) (fun _ _ _ h => h) (Or.inl ⟨by rfl, ?_⟩) hHeld ?_
      rotate_left
      · (intro w hSw; (try dsimp only at hSw); go_simp)
        all_goals with_reducible rfl
      try simp only [Act.put, List.setIfInBounds_toArray, List.set_cons_zero, List.set_cons_succ]
      refine wpAnyH_take (i := 7) (oi := { dst := some 44, op := Go.Op.load 27 (Go.Operand.tmp 5), type := 27, pos := "law.go:53", after := #[{ on := 5, ground := Go.Ground.guard }], guard := some (5, true) }) (v := ?_) rfl (by kernel_rfl) (by kernel_rfl) (by kernel_rfl) (fun _ _ _ h => h) (Or.inl ⟨by rfl, ?_⟩) hHeld ?_
      rotate_left
      · (intro w hSw; (try dsimp only at hSw); go_simp)
        all_goals with_reducible rfl
      try simp only [Act.put, List.setIfInBounds_toArray, List.set_cons_zero, List.set_cons_succ]
      refine wpAnyH_ready (rs := [8]) (by kernel_rfl) (by simp) ?_
      refine AllReadyH.cons (o := { dst := some 45, op := Go.Op.call { callee := Go.Callee.value (Go.Operand.func 11), args := #[Go.Operand.tmp 43, Go.Operand.tmp 44], argTypes := #[27, 27] }, type := 4, pos := "law.go:53", after := #[{ on := 6, ground := Go.Ground.data }, { on := 7, ground := Go.Ground.data }, { on := 5, ground := Go.Ground.chain }, { on := 5, ground := Go.Ground.guard }], guard := some (5, true) }) rfl (fun K hK => ?_) AllReadyH.nil
      go_simp
      go_at_call 11
      refine (hSy.out _).mono ?_
      rintro e w9 ⟨rfl, hg⟩
      replace hP := hP.bel hg; replace hQ := hQ.bel hg; replace hY := hY.bel hg; replace hd := hd.trans' hg; clear hg
      first | refine hK.out _ _ ?_ (fun hHeld => ?_) | (go_wp2_with fail; refine hK.out _ _ ?_ (fun hHeld => ?_))
      · (try dsimp only); exact ⟨hP.cells, hQ.cells, hY.cells⟩
      clear hK K
      try simp only [Act.put, List.setIfInBounds_toArray, List.set_cons_zero, List.set_cons_succ]
      refine wpAnyH_take (i := 9) (oi := { dst := some 46, op := Go.Op.pick (Go.Operand.tmp 42) (Go.Operand.tmp 45) (Go.Operand.const (Go.Value.bool false)), type := 4, pos := "law.go:53", after := #[{ on := 5, ground := Go.Ground.data }, { on := 8, ground := Go.Ground.data }], guard := none }) (v := ?_) rfl (by kernel_rfl) (by kernel_rfl) (by kernel_rfl) (fun _ _ _ h => h) (Or.inl ⟨by rfl, ?_⟩) hHeld ?_
      rotate_left
      · (intro w hSw; (try dsimp only at hSw); go_simp)
        all_goals with_reducible rfl
      try simp only [Act.put, List.setIfInBounds_toArray, List.set_cons_zero, List.set_cons_succ]
      refine wpAnyH_take (i := 10) (oi := { dst := some 47, op := Go.Op.move (Go.Operand.tmp 46), type := 4, pos := "law.go:53", after := #[{ on := 9, ground := Go.Ground.data }, { on := 8, ground := Go.Ground.chain }], guard := none }) (v := ?_) rfl (by kernel_rfl) (by kernel_rfl) (by kernel_rfl) (fun _ _ _ h => h) (Or.inl ⟨by rfl, ?_⟩) hHeld ?_
      rotate_left
      · (intro w hSw; (try dsimp only at hSw); go_simp)
        all_goals with_reducible rfl
      try simp only [Act.put, List.setIfInBounds_toArray, List.set_cons_zero, List.set_cons_succ]
      refine wpAnyH_take (i := 11) (oi := { dst := some 48, op := Go.Op.load 27 (Go.Operand.tmp 5), type := 27, pos := "law.go:53", after := #[{ on := 10, ground := Go.Ground.guard }], guard := some (10, true) }) (v := ?_) rfl (by kernel_rfl) (by kernel_rfl) (by kernel_rfl) (fun _ _ _ h => h) (Or.inl ⟨by rfl, ?_⟩) hHeld ?_
      rotate_left
      · (intro w hSw; (try dsimp only at hSw); go_simp)
        all_goals with_reducible rfl
      try simp only [Act.put, List.setIfInBounds_toArray, List.set_cons_zero, List.set_cons_succ]
      refine wpAnyH_take (i := 13) (oi := { dst := some 50, op := Go.Op.load 27 (Go.Operand.tmp 5), type := 27, pos := "law.go:53", after := #[{ on := 10, ground := Go.Ground.guard }], guard := some (10, true) }) (v := ?_) rfl (by kernel_rfl) (by kernel_rfl) (by kernel_rfl) (fun _ _ _ h => h) (Or.inl ⟨by rfl, ?_⟩) hHeld ?_
      rotate_left
      · (intro w hSw; (try dsimp only at hSw); go_simp)
        all_goals with_reducible rfl
      try simp only [Act.put, List.setIfInBounds_toArray, List.set_cons_zero, List.set_cons_succ]
      refine wpAnyH_ready (rs := [12]) (by kernel_rfl) (by simp) ?_
      refine AllReadyH.cons (o := { dst := some 49, op := Go.Op.call { callee := Go.Callee.value (Go.Operand.func 13), args := #[Go.Operand.tmp 48], argTypes := #[27] }, type := 27, pos := "law.go:53", after := #[{ on := 11, ground := Go.Ground.data }, { on := 10, ground := Go.Ground.chain }, { on := 10, ground := Go.Ground.guard }], guard := some (10, true) }) rfl (fun K hK => ?_) AllReadyH.nil
      go_simp
      go_at_call 13
      refine (hCy.out _).mono ?_
      rintro e w9 ⟨⟨q9, HQ9, rfl⟩, hg⟩
      obtain rfl := HQ9.out.symm
      replace hP := hP.bel hg; replace hQ := hQ.bel hg; replace hY := hY.bel hg; replace hd := hd.trans' hg; clear hg
      first | refine hK.out _ _ ?_ (fun hHeld => ?_) | (go_wp2_with fail; refine hK.out _ _ ?_ (fun hHeld => ?_))
      · (try dsimp only); exact ⟨hP.cells, hQ.cells, hY.cells⟩
      clear hK K
      try simp only [Act.put, List.setIfInBounds_toArray, List.set_cons_zero, List.set_cons_succ]
      refine wpAnyH_take (i := 14) (oi := { dst := some 51, op := Go.Op.binOp Go.BinOp.eql 27 (Go.Operand.tmp 49) (Go.Operand.tmp 50) 27, type := 4, pos := "law.go:53", after := #[{ on := 12, ground := Go.Ground.data }, { on := 13, ground := Go.Ground.data }, { on := 10, ground := Go.Ground.guard }], guard := some (10, true) }) (v := ?_) rfl (by kernel_rfl) (by kernel_rfl) (by kernel_rfl) (fun _ _ _ h => h) (Or.inl ⟨by rfl, ?_⟩) hHeld ?_
      rotate_left
      · (intro w hSw; (try dsimp only at hSw); go_simp)
        all_goals with_reducible rfl
      try simp only [Act.put, List.setIfInBounds_toArray, List.set_cons_zero, List.set_cons_succ]
      refine wpAnyH_take (i := 15) (oi := { dst := some 52, op := Go.Op.pick (Go.Operand.tmp 47) (Go.Operand.tmp 51) (Go.Operand.const (Go.Value.bool false)), type := 4, pos := "law.go:53", after := #[{ on := 10, ground := Go.Ground.data }, { on := 14, ground := Go.Ground.data }], guard := none }) (v := ?_) rfl (by kernel_rfl) (by kernel_rfl) (by kernel_rfl) (fun _ _ _ h => h) (Or.inl ⟨by rfl, ?_⟩) hHeld ?_
      rotate_left
      · (intro w hSw; (try dsimp only at hSw); go_simp)
        all_goals with_reducible rfl
      try simp only [Act.put, List.setIfInBounds_toArray, List.set_cons_zero, List.set_cons_succ]
      refine wpAnyH_take (i := 16) (oi := { dst := some 53, op := Go.Op.move (Go.Operand.tmp 52), type := 4, pos := "law.go:53", after := #[{ on := 15, ground := Go.Ground.data }, { on := 12, ground := Go.Ground.chain }], guard := none }) (v := ?_) rfl (by kernel_rfl) (by kernel_rfl) (by kernel_rfl) (fun _ _ _ h => h) (Or.inl ⟨by rfl, ?_⟩) hHeld ?_
      rotate_left
      · (intro w hSw; (try dsimp only at hSw); go_simp)
        all_goals with_reducible rfl
      try simp only [Act.put, List.setIfInBounds_toArray, List.set_cons_zero, List.set_cons_succ]
      refine wpAnyH_take (i := 17) (oi := { dst := some 54, op := Go.Op.load 27 (Go.Operand.tmp 5), type := 27, pos := "law.go:53", after := #[{ on := 16, ground := Go.Ground.guard }], guard := some (16, true) }) (v := ?_) rfl (by kernel_rfl) (by kernel_rfl) (by kernel_rfl) (fun _ _ _ h => h) (Or.inl ⟨by rfl, ?_⟩) hHeld ?_
      rotate_left
      · (intro w hSw; (try dsimp only at hSw); go_simp)
        all_goals with_reducible rfl
      try simp only [Act.put, List.setIfInBounds_toArray, List.set_cons_zero, List.set_cons_succ]
      refine wpAnyH_ready (rs := [18]) (by kernel_rfl) (by simp) ?_
      refine AllReadyH.cons (o := { dst := some 55, op := Go.Op.call { callee := Go.Callee.value (Go.Operand.func 15), args := #[Go.Operand.tmp 54], argTypes := #[27] }, type := 35, pos := "law.go:53", after := #[{ on := 17, ground := Go.Ground.data }, { on := 16, ground := Go.Ground.chain }, { on := 16, ground := Go.Ground.guard }], guard := some (16, true) }) rfl (fun K hK => ?_) AllReadyH.nil
      go_simp
      go_at_call 15
      refine (hKy.out _).mono ?_
      rintro e w9 ⟨rfl, hg⟩
      replace hP := hP.bel hg; replace hQ := hQ.bel hg; replace hY := hY.bel hg; replace hd := hd.trans' hg; clear hg
      first | refine hK.out _ _ ?_ (fun hHeld => ?_) | (go_wp2_with fail; refine hK.out _ _ ?_ (fun hHeld => ?_))
      · (try dsimp only); exact ⟨hP.cells, hQ.cells, hY.cells⟩
      clear hK K
      try simp only [Act.put, List.setIfInBounds_toArray, List.set_cons_zero, List.set_cons_succ]
      refine wpAnyH_take (i := 19) (oi := { dst := some 56, op := Go.Op.binOp Go.BinOp.eql 35 (Go.Operand.tmp 55) (Go.Operand.const (Go.Value.int Go.IntKind.i64 0)) 35, type := 4, pos := "law.go:53", after := #[{ on := 18, ground := Go.Ground.data }, { on := 16, ground := Go.Ground.guard }], guard := some (16, true) }) (v := ?_) rfl (by kernel_rfl) (by kernel_rfl) (by kernel_rfl) (fun _ _ _ h => h) (Or.inl ⟨by rfl, ?_⟩) hHeld ?_
      rotate_left
      · (intro w hSw; (try dsimp only at hSw); go_simp)
        all_goals with_reducible rfl
      try simp only [Act.put, List.setIfInBounds_toArray, List.set_cons_zero, List.set_cons_succ]
      refine wpAnyH_take (i := 20) (oi := { dst := some 57, op := Go.Op.pick (Go.Operand.tmp 53) (Go.Operand.tmp 56) (Go.Operand.const (Go.Value.bool false)), type := 4, pos := "law.go:53", after := #[{ on := 16, ground := Go.Ground.data }, { on := 19, ground := Go.Ground.data }], guard := none }) (v := ?_) rfl (by kernel_rfl) (by kernel_rfl) (by kernel_rfl) (fun _ _ _ h => h) (Or.inl ⟨by rfl, ?_⟩) hHeld ?_
      rotate_left
      · (intro w hSw; (try dsimp only at hSw); go_simp)
        all_goals with_reducible rfl
      try simp only [Act.put, List.setIfInBounds_toArray, List.set_cons_zero, List.set_cons_succ]
      refine wpAnyH_take (i := 21) (oi := { dst := some 58, op := Go.Op.move (Go.Operand.tmp 57), type := 4, pos := "law.go:53", after := #[{ on := 20, ground := Go.Ground.data }, { on := 18, ground := Go.Ground.chain }], guard := none }) (v := ?_) rfl (by kernel_rfl) (by kernel_rfl) (by kernel_rfl) (fun _ _ _ h => h) (Or.inl ⟨by rfl, ?_⟩) hHeld ?_
      rotate_left
      · (intro w hSw; (try dsimp only at hSw); go_simp)
        all_goals with_reducible rfl
      try simp only [Act.put, List.setIfInBounds_toArray, List.set_cons_zero, List.set_cons_succ]
      refine wpAnyH_take (i := 22) (oi := { dst := some 59, op := Go.Op.load 27 (Go.Operand.tmp 2), type := 27, pos := "law.go:53", after := #[{ on := 21, ground := Go.Ground.guard }], guard := some (21, true) }) (v := ?_) rfl (by kernel_rfl) (by kernel_rfl) (by kernel_rfl) (fun _ _ _ h => h) (Or.inl ⟨by rfl, ?_⟩) hHeld ?_
      rotate_left
      · (intro w hSw; (try dsimp only at hSw); go_simp)
        all_goals with_reducible rfl
      try simp only [Act.put, List.setIfInBounds_toArray, List.set_cons_zero, List.set_cons_succ]
      refine wpAnyH_take (i := 24) (oi := { dst := some 61, op := Go.Op.load 27 (Go.Operand.tmp 3), type := 27, pos := "law.go:53", after := #[{ on := 21, ground := Go.Ground.guard }], guard := some (21, true) }) (v := ?_) rfl (by kernel_rfl) (by kernel_rfl) (by kernel_rfl) (fun _ _ _ h => h) (Or.inl ⟨by rfl, ?_⟩) hHeld ?_
      rotate_left
      · (intro w hSw; (try dsimp only at hSw); go_simp)
        all_goals with_reducible rfl
      try simp only [Act.put, List.setIfInBounds_toArray, List.set_cons_zero, List.set_cons_succ]
      refine wpAnyH_take (i := 27) (oi := { dst := some 64, op := Go.Op.load 27 (Go.Operand.tmp 2), type := 27, pos := "law.go:53", after := #[{ on := 21, ground := Go.Ground.guard }], guard := some (21, true) }) (v := ?_) rfl (by kernel_rfl) (by kernel_rfl) (by kernel_rfl) (fun _ _ _ h => h) (Or.inl ⟨by rfl, ?_⟩) hHeld ?_
      rotate_left
      · (intro w hSw; (try dsimp only at hSw); go_simp)
        all_goals with_reducible rfl
      try simp only [Act.put, List.setIfInBounds_toArray, List.set_cons_zero, List.set_cons_succ]
      refine wpAnyH_take (i := 28) (oi := { dst := some 65, op := Go.Op.load 27 (Go.Operand.tmp 3), type := 27, pos := "law.go:53", after := #[{ on := 21, ground := Go.Ground.guard }], guard := some (21, true) }) (v := ?_) rfl (by kernel_rfl) (by kernel_rfl) (by kernel_rfl) (fun _ _ _ h => h) (Or.inl ⟨by rfl, ?_⟩) hHeld ?_
      rotate_left
      · (intro w hSw; (try dsimp only at hSw); go_simp)
        all_goals with_reducible rfl
      try simp only [Act.put, List.setIfInBounds_toArray, List.set_cons_zero, List.set_cons_succ]
      refine wpAnyH_ready (rs := [23]) (by kernel_rfl) (by simp) ?_
      refine AllReadyH.cons (o := { dst := some 60, op := Go.Op.call { callee := Go.Callee.value (Go.Operand.func 12), args := #[Go.Operand.tmp 59], argTypes := #[27] }, type := 9, pos := "law.go:53", after := #[{ on := 22, ground := Go.Ground.data }, { on := 21, ground := Go.Ground.chain }, { on := 21, ground := Go.Ground.guard }], guard := some (21, true) }) rfl (fun K hK => ?_) AllReadyH.nil
      go_simp
      go_at_call 12
      refine (hTa.out _).mono ?_
      rintro e w9 ⟨rfl, hg⟩
      replace hP := hP.bel hg; replace hQ := hQ.bel hg; replace hY := hY.bel hg; replace hd := hd.trans' hg; clear hg
      first | refine hK.out _ _ ?_ (fun hHeld => ?_) | (go_wp2_with fail; refine hK.out _ _ ?_ (fun hHeld => ?_))
      · (try dsimp only); exact ⟨hP.cells, hQ.cells, hY.cells⟩
      clear hK K
      try simp only [Act.put, List.setIfInBounds_toArray, List.set_cons_zero, List.set_cons_succ]
      refine wpAnyH_ready (rs := [25]) (by kernel_rfl) (by simp) ?_
      refine AllReadyH.cons (o := { dst := some 62, op := Go.Op.call { callee := Go.Callee.value (Go.Operand.func 12), args := #[Go.Operand.tmp 61], argTypes := #[27] }, type := 9, pos := "law.go:53", after := #[{ on := 24, ground := Go.Ground.data }, { on := 23, ground := Go.Ground.chain }, { on := 21, ground := Go.Ground.guard }], guard := some (21, true) }) rfl (fun K hK => ?_) AllReadyH.nil
      go_simp
      go_at_call 12
      refine (hTb.out _).mono ?_
      rintro e w9 ⟨rfl, hg⟩
      replace hP := hP.bel hg; replace hQ := hQ.bel hg; replace hY := hY.bel hg; replace hd := hd.trans' hg; clear hg
      first | refine hK.out _ _ ?_ (fun hHeld => ?_) | (go_wp2_with fail; refine hK.out _ _ ?_ (fun hHeld => ?_))
      · (try dsimp only); exact ⟨hP.cells, hQ.cells, hY.cells⟩
      clear hK K
      try simp only [Act.put, List.setIfInBounds_toArray, List.set_cons_zero, List.set_cons_succ]
      refine wpAnyH_take (i := 26) (oi := { dst := some 63, op := Go.Op.binOp Go.BinOp.eql 9 (Go.Operand.tmp 60) (Go.Operand.tmp 62) 9, type := 4, pos := "law.go:53", after := #[{ on := 23, ground := Go.Ground.data }, { on := 25, ground := Go.Ground.data }, { on := 21, ground := Go.Ground.guard }], guard := some (21, true) }) (v := ?_) rfl (by kernel_rfl) (by kernel_rfl) (by kernel_rfl) (fun _ _ _ h => h) (Or.inl ⟨by rfl, ?_⟩) hHeld ?_
      rotate_left
      · (intro w hSw; (try dsimp only at hSw); go_simp)
        all_goals with_reducible rfl
      try simp only [Act.put, List.setIfInBounds_toArray, List.set_cons_zero, List.set_cons_succ]
      refine wpAnyH_ready (rs := [29]) (by kernel_rfl) (by simp) ?_
      refine AllReadyH.cons (o := { dst := some 66, op := Go.Op.call { callee := Go.Callee.value (Go.Operand.func 11), args := #[Go.Operand.tmp 64, Go.Operand.tmp 65], argTypes := #[27, 27] }, type := 4, pos := "law.go:53", after := #[{ on := 27, ground := Go.Ground.data }, { on := 28, ground := Go.Ground.data }, { on := 25, ground := Go.Ground.chain }, { on := 21, ground := Go.Ground.guard }], guard := some (21, true) }) rfl (fun K hK => ?_) AllReadyH.nil
      go_simp
      go_at_call 11
      refine (hS2.out _).mono ?_
      rintro e w9 ⟨rfl, hg⟩
      replace hP := hP.bel hg; replace hQ := hQ.bel hg; replace hY := hY.bel hg; replace hd := hd.trans' hg; clear hg
      first | refine hK.out _ _ ?_ (fun hHeld => ?_) | (go_wp2_with fail; refine hK.out _ _ ?_ (fun hHeld => ?_))
      · (try dsimp only); exact ⟨hP.cells, hQ.cells, hY.cells⟩
      clear hK K
      try simp only [Act.put, List.setIfInBounds_toArray, List.set_cons_zero, List.set_cons_succ]
      refine wpAnyH_take (i := 30) (oi := { dst := some 67, op := Go.Op.binOp Go.BinOp.eql 4 (Go.Operand.tmp 63) (Go.Operand.tmp 66) 4, type := 4, pos := "law.go:53", after := #[{ on := 26, ground := Go.Ground.data }, { on := 29, ground := Go.Ground.data }, { on := 21, ground := Go.Ground.guard }], guard := some (21, true) }) (v := ?_) rfl (by kernel_rfl) (by kernel_rfl) (by kernel_rfl) (fun _ _ _ h => h) (Or.inl ⟨by rfl, ?_⟩) hHeld ?_
      rotate_left
      · (intro w hSw; (try dsimp only at hSw); go_simp)
        all_goals with_reducible rfl
      try simp only [Act.put, List.setIfInBounds_toArray, List.set_cons_zero, List.set_cons_succ]
      refine wpAnyH_take (i := 31) (oi := { dst := some 68, op := Go.Op.pick (Go.Operand.tmp 58) (Go.Operand.tmp 67) (Go.Operand.const (Go.Value.bool false)), type := 4, pos := "law.go:53", after := #[{ on := 21, ground := Go.Ground.data }, { on := 30, ground := Go.Ground.data }], guard := none }) (v := ?_) rfl (by kernel_rfl) (by kernel_rfl) (by kernel_rfl) (fun _ _ _ h => h) (Or.inl ⟨by rfl, ?_⟩) hHeld ?_
      rotate_left
      · (intro w hSw; (try dsimp only at hSw); go_simp)
        all_goals with_reducible rfl
      try simp only [Act.put, List.setIfInBounds_toArray, List.set_cons_zero, List.set_cons_succ]
      refine wpAnyH_take (i := 32) (oi := { dst := some 69, op := Go.Op.move (Go.Operand.tmp 68), type := 4, pos := "law.go:53", after := #[{ on := 31, ground := Go.Ground.data }, { on := 29, ground := Go.Ground.chain }], guard := none }) (v := ?_) rfl (by kernel_rfl) (by kernel_rfl) (by kernel_rfl) (fun _ _ _ h => h) (Or.inl ⟨by rfl, ?_⟩) hHeld ?_
      rotate_left
      · (intro w hSw; (try dsimp only at hSw); go_simp)
        all_goals with_reducible rfl
      try simp only [Act.put, List.setIfInBounds_toArray, List.set_cons_zero, List.set_cons_succ]
      refine wpAnyH_take (i := 33) (oi := { dst := some 70, op := Go.Op.load 27 (Go.Operand.tmp 2), type := 27, pos := "law.go:53", after := #[{ on := 32, ground := Go.Ground.guard }], guard := some (32, true) }) (v := ?_) rfl (by kernel_rfl) (by kernel_rfl) (by kernel_rfl) (fun _ _ _ h => h) (Or.inl ⟨by rfl, ?_⟩) hHeld ?_
      rotate_left
      · (intro w hSw; (try dsimp only at hSw); go_simp)
        all_goals with_reducible rfl
      try simp only [Act.put, List.setIfInBounds_toArray, List.set_cons_zero, List.set_cons_succ]
      refine wpAnyH_take (i := 35) (oi := { dst := some 72, op := Go.Op.load 27 (Go.Operand.tmp 5), type := 27, pos := "law.go:53", after := #[{ on := 32, ground := Go.Ground.guard }], guard := some (32, true) }) (v := ?_) rfl (by kernel_rfl) (by kernel_rfl) (by kernel_rfl) (fun _ _ _ h => h) (Or.inl ⟨by rfl, ?_⟩) hHeld ?_
      rotate_left
      · (intro w hSw; (try dsimp only at hSw); go_simp)
        all_goals with_reducible rfl
      try simp only [Act.put, List.setIfInBounds_toArray, List.set_cons_zero, List.set_cons_succ]
      refine wpAnyH_take (i := 36) (oi := { dst := some 73, op := Go.Op.load 27 (Go.Operand.tmp 2), type := 27, pos := "law.go:53", after := #[{ on := 32, ground := Go.Ground.guard }], guard := some (32, true) }) (v := ?_) rfl (by kernel_rfl) (by kernel_rfl) (by kernel_rfl) (fun _ _ _ h => h) (Or.inl ⟨by rfl, ?_⟩) hHeld ?_
      rotate_left
      · (intro w hSw; (try dsimp only at hSw); go_simp)
        all_goals with_reducible rfl
      try simp only [Act.put, List.setIfInBounds_toArray, List.set_cons_zero, List.set_cons_succ]
      refine wpAnyH_take (i := 37) (oi := { dst := some 74, op := Go.Op.binOp Go.BinOp.eql 27 (Go.Operand.tmp 72) (Go.Operand.tmp 73) 27, type := 4, pos := "law.go:53", after := #[{ on := 35, ground := Go.Ground.data }, { on := 36, ground := Go.Ground.data }, { on := 32, ground := Go.Ground.guard }], guard := some (32, true) }) (v := ?_) rfl (by kernel_rfl) (by kernel_rfl) (by kernel_rfl) (fun _ _ _ h => h) (Or.inl ⟨by rfl, ?_⟩) hHeld ?_
      rotate_left
      · (intro w hSw; (try dsimp only at hSw); go_simp)
        all_goals with_reducible rfl
      try simp only [Act.put, List.setIfInBounds_toArray, List.set_cons_zero, List.set_cons_succ]
      refine wpAnyH_ready (rs := [34]) (by kernel_rfl) (by simp) ?_
      refine AllReadyH.cons (o := { dst := some 71, op := Go.Op.call { callee := Go.Callee.value (Go.Operand.func 17), args := #[Go.Operand.tmp 70], argTypes := #[27] }, type := 4, pos := "law.go:53", after := #[{ on := 33, ground := Go.Ground.data }, { on := 32, ground := Go.Ground.chain }, { on := 32, ground := Go.Ground.guard }], guard := some (32, true) }) rfl (fun K hK => ?_) AllReadyH.nil
      go_simp
      go_at_call 17
      refine (hGa.out _).mono ?_
      rintro e w9 ⟨rfl, hg⟩
      replace hP := hP.bel hg; replace hQ := hQ.bel hg; replace hY := hY.bel hg; replace hd := hd.trans' hg; clear hg
      first | refine hK.out _ _ ?_ (fun hHeld => ?_) | (go_wp2_with fail; refine hK.out _ _ ?_ (fun hHeld => ?_))
      · (try dsimp only); exact ⟨hP.cells, hQ.cells, hY.cells⟩
      clear hK K
      try simp only [Act.put, List.setIfInBounds_toArray, List.set_cons_zero, List.set_cons_succ]
      refine wpAnyH_take (i := 38) (oi := { dst := some 75, op := Go.Op.move (Go.Operand.tmp 74), type := 4, pos := "law.go:53", after := #[{ on := 37, ground := Go.Ground.data }, { on := 34, ground := Go.Ground.chain }, { on := 32, ground := Go.Ground.guard }], guard := some (32, true) }) (v := ?_) rfl (by kernel_rfl) (by kernel_rfl) (by kernel_rfl) (fun _ _ _ h => h) (Or.inl ⟨by rfl, ?_⟩) hHeld ?_
      rotate_left
      · (intro w hSw; (try dsimp only at hSw); go_simp)
        all_goals with_reducible rfl
      try simp only [Act.put, List.setIfInBounds_toArray, List.set_cons_zero, List.set_cons_succ]
      refine wpAnyH_take (i := 39) (oi := { dst := some 76, op := Go.Op.load 27 (Go.Operand.tmp 5), type := 27, pos := "law.go:53", after := #[{ on := 38, ground := Go.Ground.guard }], guard := some (38, true) }) (v := undef) rfl (by kernel_rfl) (by kernel_rfl) (by kernel_rfl) (fun _ _ _ h => h) (Or.inr ⟨by kernel_rfl, rfl⟩) hHeld ?_
      try simp only [Act.put, List.setIfInBounds_toArray, List.set_cons_zero, List.set_cons_succ]
      refine wpAnyH_take (i := 40) (oi := { dst := some 77, op := Go.Op.call { callee := Go.Callee.value (Go.Operand.func 17), args := #[Go.Operand.tmp 76], argTypes := #[27] }, type := 4, pos := "law.go:53", after := #[{ on := 39, ground := Go.Ground.data }, { on := 38, ground := Go.Ground.chain }, { on := 38, ground := Go.Ground.guard }], guard := some (38, true) }) (v := undef) rfl (by kernel_rfl) (by kernel_rfl) (by kernel_rfl) (fun _ _ _ h => h) (Or.inr ⟨by kernel_rfl, rfl⟩) hHeld ?_
      try simp only [Act.put, List.setIfInBounds_toArray, List.set_cons_zero, List.set_cons_succ]
      refine wpAnyH_take (i := 41) (oi := { dst := some 78, op := Go.Op.pick (Go.Operand.tmp 75) (Go.Operand.tmp 77) (Go.Operand.const (Go.Value.bool false)), type := 4, pos := "law.go:53", after := #[{ on := 38, ground := Go.Ground.data }, { on := 40, ground := Go.Ground.data }, { on := 32, ground := Go.Ground.guard }], guard := some (32, true) }) (v := ?_) rfl (by kernel_rfl) (by kernel_rfl) (by kernel_rfl) (fun _ _ _ h => h) (Or.inl ⟨by rfl, ?_⟩) hHeld ?_
      rotate_left
      · (intro w hSw; (try dsimp only at hSw); go_simp)
        all_goals with_reducible rfl
      try simp only [Act.put, List.setIfInBounds_toArray, List.set_cons_zero, List.set_cons_succ]
      refine wpAnyH_take (i := 42) (oi := { dst := some 79, op := Go.Op.binOp Go.BinOp.eql 4 (Go.Operand.tmp 71) (Go.Operand.tmp 78) 4, type := 4, pos := "law.go:53", after := #[{ on := 34, ground := Go.Ground.data }, { on := 41, ground := Go.Ground.data }, { on := 32, ground := Go.Ground.guard }], guard := some (32, true) }) (v := ?_) rfl (by kernel_rfl) (by kernel_rfl) (by kernel_rfl) (fun _ _ _ h => h) (Or.inl ⟨by rfl, ?_⟩) hHeld ?_
      rotate_left
      · (intro w hSw; (try dsimp only at hSw); go_simp)
        all_goals with_reducible rfl
      try simp only [Act.put, List.setIfInBounds_toArray, List.set_cons_zero, List.set_cons_succ]
      refine wpAnyH_take (i := 43) (oi := { dst := some 80, op := Go.Op.pick (Go.Operand.tmp 69) (Go.Operand.tmp 79) (Go.Operand.const (Go.Value.bool false)), type := 4, pos := "law.go:53", after := #[{ on := 32, ground := Go.Ground.data }, { on := 42, ground := Go.Ground.data }], guard := none }) (v := ?_) rfl (by kernel_rfl) (by kernel_rfl) (by kernel_rfl) (fun _ _ _ h => h) (Or.inl ⟨by rfl, ?_⟩) hHeld ?_
      rotate_left
      · (intro w hSw; (try dsimp only at hSw); go_simp)
        all_goals with_reducible rfl
      try simp only [Act.put, List.setIfInBounds_toArray, List.set_cons_zero, List.set_cons_succ]
      refine wpAnyH_take (i := 44) (oi := { dst := some 4, op := Go.Op.assign (Go.Operand.tmp 80), type := 4, pos := "law.go:53", after := #[{ on := 43, ground := Go.Ground.data }, { on := 40, ground := Go.Ground.chain }, { on := 0, ground := Go.Ground.phase }, { on := 1, ground := Go.Ground.phase }, { on := 2, ground := Go.Ground.phase }, { on := 3, ground := Go.Ground.phase }, { on := 4, ground := Go.Ground.phase }, { on := 5, ground := Go.Ground.phase }, { on := 6, ground := Go.Ground.phase }, { on := 7, ground := Go.Ground.phase }, { on := 8, ground := Go.Ground.phase }, { on := 9, ground := Go.Ground.phase }, { on := 10, ground := Go.Ground.phase }, { on := 11, ground := Go.Ground.phase }, { on := 12, ground := Go.Ground.phase }, { on := 13, ground := Go.Ground.phase }, { on := 14, ground := Go.Ground.phase }, { on := 15, ground := Go.Ground.phase }, { on := 16, ground := Go.Ground.phase }, { on := 17, ground := Go.Ground.phase }, { on := 18, ground := Go.Ground.phase }, { on := 19, ground := Go.Ground.phase }, { on := 20, ground := Go.Ground.phase }, { on := 21, ground := Go.Ground.phase }, { on := 22, ground := Go.Ground.phase }, { on := 23, ground := Go.Ground.phase }, { on := 24, ground := Go.Ground.phase }, { on := 25, ground := Go.Ground.phase }, { on := 26, ground := Go.Ground.phase }, { on := 27, ground := Go.Ground.phase }, { on := 28, ground := Go.Ground.phase }, { on := 29, ground := Go.Ground.phase }, { on := 30, ground := Go.Ground.phase }, { on := 31, ground := Go.Ground.phase }, { on := 32, ground := Go.Ground.phase }, { on := 33, ground := Go.Ground.phase }, { on := 34, ground := Go.Ground.phase }, { on := 35, ground := Go.Ground.phase }, { on := 36, ground := Go.Ground.phase }, { on := 37, ground := Go.Ground.phase }, { on := 38, ground := Go.Ground.phase }, { on := 39, ground := Go.Ground.phase }, { on := 40, ground := Go.Ground.phase }, { on := 41, ground := Go.Ground.phase }, { on := 42, ground := Go.Ground.phase }, { on := 43, ground := Go.Ground.phase }], guard := none }) (v := ?_) rfl (by kernel_rfl) (by kernel_rfl) (by kernel_rfl) (fun _ _ _ h => h) (Or.inl ⟨by rfl, ?_⟩) hHeld ?_
      rotate_left
      · (intro w hSw; (try dsimp only at hSw); go_simp)
        all_goals with_reducible rfl
      try simp only [Act.put, List.setIfInBounds_toArray, List.set_cons_zero, List.set_cons_succ]
      refine wpAnyH_done (by kernel_rfl) ?_ _
      all_goals go_wp2
      all_goals go_ret
      all_goals exact ⟨rfl, HB.out.trans' hd⟩
    case true =>
      rw [he] at hc4
      clear he HGE
      have hd : Bel w7 w7.drew := bel_drew' (Below.refl _ _)
      have HB := Lib.hid hb
      clear hb hU1 hU2
      replace hP := hP.drew
      replace hQ := hQ.drew
      replace hY := hY.drew
      go_wp2
      go_region_held3 (fun w' => (w'.cell? ⟨w.heap.size, 0, none⟩ = some (.string a.says) ∧ w'.cell? ⟨w.heap.size, 1, none⟩ = some (.string a.pred) ∧ w'.cell? ⟨w.heap.size, 2, none⟩ = some (.int .i64 a.n) ∧ w'.cell? ⟨w.heap.size, 3, none⟩ = some (.bool a.t0.v) ∧ w'.cell? ⟨w.heap.size, 4, none⟩ = some (.string a.t0.name) ∧ w'.cell? ⟨w.heap.size, 5, none⟩ = some (.bool a.t1.v) ∧ w'.cell? ⟨w.heap.size, 6, none⟩ = some (.string a.t1.name) ∧ w'.cell? ⟨w.heap.size, 7, none⟩ = some (.bool a.t2.v) ∧ w'.cell? ⟨w.heap.size, 8, none⟩ = some (.string a.t2.name) ∧ w'.cell? ⟨w.heap.size, 9, none⟩ = some (.bool a.t3.v) ∧ w'.cell? ⟨w.heap.size, 10, none⟩ = some (.string a.t3.name)) ∧ (w'.cell? ⟨w.heap.size + 1, 0, none⟩ = some (.string b.says) ∧ w'.cell? ⟨w.heap.size + 1, 1, none⟩ = some (.string b.pred) ∧ w'.cell? ⟨w.heap.size + 1, 2, none⟩ = some (.int .i64 b.n) ∧ w'.cell? ⟨w.heap.size + 1, 3, none⟩ = some (.bool b.t0.v) ∧ w'.cell? ⟨w.heap.size + 1, 4, none⟩ = some (.string b.t0.name) ∧ w'.cell? ⟨w.heap.size + 1, 5, none⟩ = some (.bool b.t1.v) ∧ w'.cell? ⟨w.heap.size + 1, 6, none⟩ = some (.string b.t1.name) ∧ w'.cell? ⟨w.heap.size + 1, 7, none⟩ = some (.bool b.t2.v) ∧ w'.cell? ⟨w.heap.size + 1, 8, none⟩ = some (.string b.t2.name) ∧ w'.cell? ⟨w.heap.size + 1, 9, none⟩ = some (.bool b.t3.v) ∧ w'.cell? ⟨w.heap.size + 1, 10, none⟩ = some (.string b.t3.name)) ∧ (w'.cell? ⟨w6.heap.size, 0, none⟩ = some (.string y.says) ∧ w'.cell? ⟨w6.heap.size, 1, none⟩ = some (.string y.pred) ∧ w'.cell? ⟨w6.heap.size, 2, none⟩ = some (.int .i64 y.n) ∧ w'.cell? ⟨w6.heap.size, 3, none⟩ = some (.bool y.t0.v) ∧ w'.cell? ⟨w6.heap.size, 4, none⟩ = some (.string y.t0.name) ∧ w'.cell? ⟨w6.heap.size, 5, none⟩ = some (.bool y.t1.v) ∧ w'.cell? ⟨w6.heap.size, 6, none⟩ = some (.string y.t1.name) ∧ w'.cell? ⟨w6.heap.size, 7, none⟩ = some (.bool y.t2.v) ∧ w'.cell? ⟨w6.heap.size, 8, none⟩ = some (.string y.t2.name) ∧ w'.cell? ⟨w6.heap.size, 9, none⟩ = some (.bool y.t3.v) ∧ w'.cell? ⟨w6.heap.size, 10, none⟩ = some (.string y.t3.name))) (first | exact ⟨hP.cells, hQ.cells, hY.cells⟩ | go_keep | trivial)
        (first | (go_at_call 11; have gate := hS; refine (hS.out _).mono ?_; rintro e w9 ⟨rfl, hg⟩; clear gate hS; replace hP := hP.bel hg; replace hQ := hQ.bel hg; replace hY := hY.bel hg; replace hd := hd.trans' hg; clear hg) | (go_at_call 11; have gate := hSy; refine (hSy.out _).mono ?_; rintro e w9 ⟨rfl, hg⟩; clear gate hSy; replace hP := hP.bel hg; replace hQ := hQ.bel hg; replace hY := hY.bel hg; replace hd := hd.trans' hg; clear hg) | (go_at_call 11; refine (hS2.out _).mono ?_; rintro e w9 ⟨rfl, hg⟩; replace hP := hP.bel hg; replace hQ := hQ.bel hg; replace hY := hY.bel hg; replace hd := hd.trans' hg; clear hg) | (go_at_call 13; refine (hCy.out _).mono ?_; rintro e w9 ⟨⟨q9, HQ9, rfl⟩, hg⟩; obtain rfl := HQ9.out.symm; replace hP := hP.bel hg; replace hQ := hQ.bel hg; replace hY := hY.bel hg; replace hd := hd.trans' hg; clear hg) | (go_at_call 15; refine (hKy.out _).mono ?_; rintro e w9 ⟨rfl, hg⟩; replace hP := hP.bel hg; replace hQ := hQ.bel hg; replace hY := hY.bel hg; replace hd := hd.trans' hg; clear hg) | (go_at_call 12; have gate := hTa; refine (hTa.out _).mono ?_; rintro e w9 ⟨rfl, hg⟩; clear gate hTa; replace hP := hP.bel hg; replace hQ := hQ.bel hg; replace hY := hY.bel hg; replace hd := hd.trans' hg; clear hg) | (go_at_call 12; refine (hTb.out _).mono ?_; rintro e w9 ⟨rfl, hg⟩; replace hP := hP.bel hg; replace hQ := hQ.bel hg; replace hY := hY.bel hg; replace hd := hd.trans' hg; clear hg) | (go_at_call 17; have gate := hGa; refine (hGa.out _).mono ?_; rintro e w9 ⟨rfl, hg⟩; clear gate hGa; replace hP := hP.bel hg; replace hQ := hQ.bel hg; replace hY := hY.bel hg; replace hd := hd.trans' hg; clear hg) | (go_at_call 17; refine (hGy.out _).mono ?_; rintro e w9 ⟨rfl, hg⟩; replace hP := hP.bel hg; replace hQ := hQ.bel hg; replace hY := hY.bel hg; replace hd := hd.trans' hg; clear hg))
      all_goals go_wp2
      all_goals go_ret
      all_goals exact ⟨rfl, HB.out.trans' hd⟩
  case true =>
    rw [hu] at hU1
    rw [← show sm = underD b a by rw [HSU.out, hu]; rfl] at hU2
    have hc2 := HKE.out
    have hc5 : (sm == sm) = true := by simp
    clear HSU hu HKE
    go_wp2_with (fail)
    refine (hU1.out _).mono ?_
    rintro e w7 ⟨rfl, hg⟩
    replace hP := hP.bel hg
    replace hQ := hQ.bel hg
    replace hY := hY.bel hg
    replace hb := hb.trans' hg
    clear hg
    clear c0 c1 c2 c3 c4 c5 c6 c7 c8 c9 c10
    clear d0 d1 d2 d3 d4 d5 d6 d7 d8 d9 d10
    obtain ⟨c0, c1, c2, c3, c4, c5, c6, c7, c8, c9, c10⟩ := hP.cells
    obtain ⟨d0, d1, d2, d3, d4, d5, d6, d7, d8, d9, d10⟩ := hQ.cells
    go_wp2_with (fail)
    refine (hU2.out _).mono ?_
    rintro e w8 ⟨rfl, hg⟩
    replace hP := hP.bel hg
    replace hQ := hQ.bel hg
    replace hY := hY.bel hg
    replace hb := hb.trans' hg
    clear hg
    clear c0 c1 c2 c3 c4 c5 c6 c7 c8 c9 c10
    clear d0 d1 d2 d3 d4 d5 d6 d7 d8 d9 d10
    obtain ⟨c0, c1, c2, c3, c4, c5, c6, c7, c8, c9, c10⟩ := hP.cells
    obtain ⟨d0, d1, d2, d3, d4, d5, d6, d7, d8, d9, d10⟩ := hQ.cells
    have hS2 := hS
    cases he : eqA y a
    case false =>
      obtain rfl : gr = false := by have := HGE.out; rw [he] at this; exact this
      rw [he] at hc4
      clear he HGE
      have hd : Bel w8 w8.drew := bel_drew' (Below.refl _ _)
      have HB := Lib.hid hb
      clear hb hU1 hU2
      replace hP := hP.drew
      replace hQ := hQ.drew
      replace hY := hY.drew
      go_wp2
      refine wp_region_held_drew (S := (fun w' => (w'.cell? ⟨w.heap.size, 0, none⟩ = some (.string a.says) ∧ w'.cell? ⟨w.heap.size, 1, none⟩ = some (.string a.pred) ∧ w'.cell? ⟨w.heap.size, 2, none⟩ = some (.int .i64 a.n) ∧ w'.cell? ⟨w.heap.size, 3, none⟩ = some (.bool a.t0.v) ∧ w'.cell? ⟨w.heap.size, 4, none⟩ = some (.string a.t0.name) ∧ w'.cell? ⟨w.heap.size, 5, none⟩ = some (.bool a.t1.v) ∧ w'.cell? ⟨w.heap.size, 6, none⟩ = some (.string a.t1.name) ∧ w'.cell? ⟨w.heap.size, 7, none⟩ = some (.bool a.t2.v) ∧ w'.cell? ⟨w.heap.size, 8, none⟩ = some (.string a.t2.name) ∧ w'.cell? ⟨w.heap.size, 9, none⟩ = some (.bool a.t3.v) ∧ w'.cell? ⟨w.heap.size, 10, none⟩ = some (.string a.t3.name)) ∧ (w'.cell? ⟨w.heap.size + 1, 0, none⟩ = some (.string b.says) ∧ w'.cell? ⟨w.heap.size + 1, 1, none⟩ = some (.string b.pred) ∧ w'.cell? ⟨w.heap.size + 1, 2, none⟩ = some (.int .i64 b.n) ∧ w'.cell? ⟨w.heap.size + 1, 3, none⟩ = some (.bool b.t0.v) ∧ w'.cell? ⟨w.heap.size + 1, 4, none⟩ = some (.string b.t0.name) ∧ w'.cell? ⟨w.heap.size + 1, 5, none⟩ = some (.bool b.t1.v) ∧ w'.cell? ⟨w.heap.size + 1, 6, none⟩ = some (.string b.t1.name) ∧ w'.cell? ⟨w.heap.size + 1, 7, none⟩ = some (.bool b.t2.v) ∧ w'.cell? ⟨w.heap.size + 1, 8, none⟩ = some (.string b.t2.name) ∧ w'.cell? ⟨w.heap.size + 1, 9, none⟩ = some (.bool b.t3.v) ∧ w'.cell? ⟨w.heap.size + 1, 10, none⟩ = some (.string b.t3.name)) ∧ (w'.cell? ⟨w6.heap.size, 0, none⟩ = some (.string y.says) ∧ w'.cell? ⟨w6.heap.size, 1, none⟩ = some (.string y.pred) ∧ w'.cell? ⟨w6.heap.size, 2, none⟩ = some (.int .i64 y.n) ∧ w'.cell? ⟨w6.heap.size, 3, none⟩ = some (.bool y.t0.v) ∧ w'.cell? ⟨w6.heap.size, 4, none⟩ = some (.string y.t0.name) ∧ w'.cell? ⟨w6.heap.size, 5, none⟩ = some (.bool y.t1.v) ∧ w'.cell? ⟨w6.heap.size, 6, none⟩ = some (.string y.t1.name) ∧ w'.cell? ⟨w6.heap.size, 7, none⟩ = some (.bool y.t2.v) ∧ w'.cell? ⟨w6.heap.size, 8, none⟩ = some (.string y.t2.name) ∧ w'.cell? ⟨w6.heap.size, 9, none⟩ = some (.bool y.t3.v) ∧ w'.cell? ⟨w6.heap.size, 10, none⟩ = some (.string y.t3.name)))) (by kernel_rfl) (⟨hP.cells, hQ.cells, hY.cells⟩) (fun hHeld => ?_)
      refine wpAnyH_take (i := 0) (oi := { dst := some 37, op := Go.Op.load 27 (Go.Operand.tmp 2), type := 27, pos := "law.go:53", after := #[], guard := none }) (v := ?_) rfl (by kernel_rfl) (by kernel_rfl) (by kernel_rfl) (fun _ _ _ h => h) (Or.inl ⟨by rfl, ?_⟩) hHeld ?_
      rotate_left
      · (intro w hSw; (try dsimp only at hSw); go_simp)
        all_goals with_reducible rfl
      try simp only [Act.put, List.setIfInBounds_toArray, List.set_cons_zero, List.set_cons_succ]
      refine wpAnyH_take (i := 1) (oi := { dst := some 38, op := Go.Op.load 27 (Go.Operand.tmp 3), type := 27, pos := "law.go:53", after := #[], guard := none }) (v := ?_) rfl (by kernel_rfl) (by kernel_rfl) (by kernel_rfl) (fun _ _ _ h => h) (Or.inl ⟨by rfl, ?_⟩) hHeld ?_
      rotate_left
      · (intro w hSw; (try dsimp only at hSw); go_simp)
        all_goals with_reducible rfl
      try simp only [Act.put, List.setIfInBounds_toArray, List.set_cons_zero, List.set_cons_succ]
      refine wpAnyH_take (i := 3) (oi := { dst := some 40, op := Go.Op.move (Go.Operand.tmp 6), type := 4, pos := "law.go:53", after := #[], guard := none }) (v := ?_) rfl (by kernel_rfl) (by kernel_rfl) (by kernel_rfl) (fun _ _ _ h => h) (Or.inl ⟨by rfl, ?_⟩) hHeld ?_
      rotate_left
      · (intro w hSw; (try dsimp only at hSw); go_simp)
        all_goals with_reducible rfl
      try simp only [Act.put, List.setIfInBounds_toArray, List.set_cons_zero, List.set_cons_succ]
      refine wpAnyH_ready (rs := [2]) (by kernel_rfl) (by simp) ?_
      refine AllReadyH.cons (o := { dst := some 39, op := Go.Op.call { callee := Go.Callee.value (Go.Operand.func 11), args := #[Go.Operand.tmp 37, Go.Operand.tmp 38], argTypes := #[27, 27] }, type := 4, pos := "law.go:53", after := #[{ on := 0, ground := Go.Ground.data }, { on := 1, ground := Go.Ground.data }], guard := none }) rfl (fun K hK => ?_) AllReadyH.nil
      go_simp
      go_at_call 11
      refine (hS.out _).mono ?_
      rintro e w9 ⟨rfl, hg⟩
      replace hP := hP.bel hg; replace hQ := hQ.bel hg; replace hY := hY.bel hg; replace hd := hd.trans' hg; clear hg
      first | refine hK.out _ _ ?_ (fun hHeld => ?_) | (go_wp2_with fail; refine hK.out _ _ ?_ (fun hHeld => ?_))
      · (try dsimp only); exact ⟨hP.cells, hQ.cells, hY.cells⟩
      clear hK K
      try simp only [Act.put, List.setIfInBounds_toArray, List.set_cons_zero, List.set_cons_succ]
      refine wpAnyH_take (i := 4) (oi := { dst := some 41, op := Go.Op.binOp Go.BinOp.eql 4 (Go.Operand.tmp 39) (Go.Operand.tmp 40) 4, type := 4, pos := "law.go:53", after := #[{ on := 2, ground := Go.Ground.data }, { on := 3, ground := Go.Ground.data }], guard := none }) (v := ?_) rfl (by kernel_rfl) (by kernel_rfl) (by kernel_rfl) (fun _ _ _ h => h) (Or.inl ⟨by rfl, ?_⟩) hHeld ?_
      rotate_left
      · (intro w hSw; (try dsimp only at hSw); go_simp)
        all_goals with_reducible rfl
      try simp only [Act.put, List.setIfInBounds_toArray, List.set_cons_zero, List.set_cons_succ]
      refine wpAnyH_take (i := 5) (oi := { dst := some 42, op := Go.Op.move (Go.Operand.tmp 41), type := 4, pos := "law.go:53", after := #[{ on := 4, ground := Go.Ground.data }, { on := 2, ground := Go.Ground.chain }], guard := none }) (v := ?_) rfl (by kernel_rfl) (by kernel_rfl) (by kernel_rfl) (fun _ _ _ h => h) (Or.inl ⟨by rfl, ?_⟩) hHeld ?_
      rotate_left
      · (intro w hSw; (try dsimp only at hSw); go_simp)
        all_goals with_reducible rfl
      try simp only [Act.put, List.setIfInBounds_toArray, List.set_cons_zero, List.set_cons_succ]
      refine wpAnyH_take (i := 6) (oi := { dst := some 43, op := Go.Op.load 27 (Go.Operand.tmp 2), type := 27, pos := "law.go:53", after := #[{ on := 5, ground := Go.Ground.guard }], guard := some (5, true) }) (v := ?_) rfl (by kernel_rfl) (by kernel_rfl) (by kernel_rfl) (fun _ _ _ h => h) (Or.inl ⟨by rfl, ?_⟩) hHeld ?_
      rotate_left
      · (intro w hSw; (try dsimp only at hSw); go_simp)
        all_goals with_reducible rfl
      try simp only [Act.put, List.setIfInBounds_toArray, List.set_cons_zero, List.set_cons_succ]
      refine wpAnyH_take (i := 7) (oi := { dst := some 44, op := Go.Op.load 27 (Go.Operand.tmp 5), type := 27, pos := "law.go:53", after := #[{ on := 5, ground := Go.Ground.guard }], guard := some (5, true) }) (v := ?_) rfl (by kernel_rfl) (by kernel_rfl) (by kernel_rfl) (fun _ _ _ h => h) (Or.inl ⟨by rfl, ?_⟩) hHeld ?_
      rotate_left
      · (intro w hSw; (try dsimp only at hSw); go_simp)
        all_goals with_reducible rfl
      try simp only [Act.put, List.setIfInBounds_toArray, List.set_cons_zero, List.set_cons_succ]
      refine wpAnyH_ready (rs := [8]) (by kernel_rfl) (by simp) ?_
      refine AllReadyH.cons (o := { dst := some 45, op := Go.Op.call { callee := Go.Callee.value (Go.Operand.func 11), args := #[Go.Operand.tmp 43, Go.Operand.tmp 44], argTypes := #[27, 27] }, type := 4, pos := "law.go:53", after := #[{ on := 6, ground := Go.Ground.data }, { on := 7, ground := Go.Ground.data }, { on := 5, ground := Go.Ground.chain }, { on := 5, ground := Go.Ground.guard }], guard := some (5, true) }) rfl (fun K hK => ?_) AllReadyH.nil
      go_simp
      go_at_call 11
      refine (hSy.out _).mono ?_
      rintro e w9 ⟨rfl, hg⟩
      replace hP := hP.bel hg; replace hQ := hQ.bel hg; replace hY := hY.bel hg; replace hd := hd.trans' hg; clear hg
      first | refine hK.out _ _ ?_ (fun hHeld => ?_) | (go_wp2_with fail; refine hK.out _ _ ?_ (fun hHeld => ?_))
      · (try dsimp only); exact ⟨hP.cells, hQ.cells, hY.cells⟩
      clear hK K
      try simp only [Act.put, List.setIfInBounds_toArray, List.set_cons_zero, List.set_cons_succ]
      refine wpAnyH_take (i := 9) (oi := { dst := some 46, op := Go.Op.pick (Go.Operand.tmp 42) (Go.Operand.tmp 45) (Go.Operand.const (Go.Value.bool false)), type := 4, pos := "law.go:53", after := #[{ on := 5, ground := Go.Ground.data }, { on := 8, ground := Go.Ground.data }], guard := none }) (v := ?_) rfl (by kernel_rfl) (by kernel_rfl) (by kernel_rfl) (fun _ _ _ h => h) (Or.inl ⟨by rfl, ?_⟩) hHeld ?_
      rotate_left
      · (intro w hSw; (try dsimp only at hSw); go_simp)
        all_goals with_reducible rfl
      try simp only [Act.put, List.setIfInBounds_toArray, List.set_cons_zero, List.set_cons_succ]
      refine wpAnyH_take (i := 10) (oi := { dst := some 47, op := Go.Op.move (Go.Operand.tmp 46), type := 4, pos := "law.go:53", after := #[{ on := 9, ground := Go.Ground.data }, { on := 8, ground := Go.Ground.chain }], guard := none }) (v := ?_) rfl (by kernel_rfl) (by kernel_rfl) (by kernel_rfl) (fun _ _ _ h => h) (Or.inl ⟨by rfl, ?_⟩) hHeld ?_
      rotate_left
      · (intro w hSw; (try dsimp only at hSw); go_simp)
        all_goals with_reducible rfl
      try simp only [Act.put, List.setIfInBounds_toArray, List.set_cons_zero, List.set_cons_succ]
      refine wpAnyH_take (i := 11) (oi := { dst := some 48, op := Go.Op.load 27 (Go.Operand.tmp 5), type := 27, pos := "law.go:53", after := #[{ on := 10, ground := Go.Ground.guard }], guard := some (10, true) }) (v := ?_) rfl (by kernel_rfl) (by kernel_rfl) (by kernel_rfl) (fun _ _ _ h => h) (Or.inl ⟨by rfl, ?_⟩) hHeld ?_
      rotate_left
      · (intro w hSw; (try dsimp only at hSw); go_simp)
        all_goals with_reducible rfl
      try simp only [Act.put, List.setIfInBounds_toArray, List.set_cons_zero, List.set_cons_succ]
      refine wpAnyH_take (i := 13) (oi := { dst := some 50, op := Go.Op.load 27 (Go.Operand.tmp 5), type := 27, pos := "law.go:53", after := #[{ on := 10, ground := Go.Ground.guard }], guard := some (10, true) }) (v := ?_) rfl (by kernel_rfl) (by kernel_rfl) (by kernel_rfl) (fun _ _ _ h => h) (Or.inl ⟨by rfl, ?_⟩) hHeld ?_
      rotate_left
      · (intro w hSw; (try dsimp only at hSw); go_simp)
        all_goals with_reducible rfl
      try simp only [Act.put, List.setIfInBounds_toArray, List.set_cons_zero, List.set_cons_succ]
      refine wpAnyH_ready (rs := [12]) (by kernel_rfl) (by simp) ?_
      refine AllReadyH.cons (o := { dst := some 49, op := Go.Op.call { callee := Go.Callee.value (Go.Operand.func 13), args := #[Go.Operand.tmp 48], argTypes := #[27] }, type := 27, pos := "law.go:53", after := #[{ on := 11, ground := Go.Ground.data }, { on := 10, ground := Go.Ground.chain }, { on := 10, ground := Go.Ground.guard }], guard := some (10, true) }) rfl (fun K hK => ?_) AllReadyH.nil
      go_simp
      go_at_call 13
      refine (hCy.out _).mono ?_
      rintro e w9 ⟨⟨q9, HQ9, rfl⟩, hg⟩
      obtain rfl := HQ9.out.symm
      replace hP := hP.bel hg; replace hQ := hQ.bel hg; replace hY := hY.bel hg; replace hd := hd.trans' hg; clear hg
      first | refine hK.out _ _ ?_ (fun hHeld => ?_) | (go_wp2_with fail; refine hK.out _ _ ?_ (fun hHeld => ?_))
      · (try dsimp only); exact ⟨hP.cells, hQ.cells, hY.cells⟩
      clear hK K
      try simp only [Act.put, List.setIfInBounds_toArray, List.set_cons_zero, List.set_cons_succ]
      refine wpAnyH_take (i := 14) (oi := { dst := some 51, op := Go.Op.binOp Go.BinOp.eql 27 (Go.Operand.tmp 49) (Go.Operand.tmp 50) 27, type := 4, pos := "law.go:53", after := #[{ on := 12, ground := Go.Ground.data }, { on := 13, ground := Go.Ground.data }, { on := 10, ground := Go.Ground.guard }], guard := some (10, true) }) (v := ?_) rfl (by kernel_rfl) (by kernel_rfl) (by kernel_rfl) (fun _ _ _ h => h) (Or.inl ⟨by rfl, ?_⟩) hHeld ?_
      rotate_left
      · (intro w hSw; (try dsimp only at hSw); go_simp)
        all_goals with_reducible rfl
      try simp only [Act.put, List.setIfInBounds_toArray, List.set_cons_zero, List.set_cons_succ]
      refine wpAnyH_take (i := 15) (oi := { dst := some 52, op := Go.Op.pick (Go.Operand.tmp 47) (Go.Operand.tmp 51) (Go.Operand.const (Go.Value.bool false)), type := 4, pos := "law.go:53", after := #[{ on := 10, ground := Go.Ground.data }, { on := 14, ground := Go.Ground.data }], guard := none }) (v := ?_) rfl (by kernel_rfl) (by kernel_rfl) (by kernel_rfl) (fun _ _ _ h => h) (Or.inl ⟨by rfl, ?_⟩) hHeld ?_
      rotate_left
      · (intro w hSw; (try dsimp only at hSw); go_simp)
        all_goals with_reducible rfl
      try simp only [Act.put, List.setIfInBounds_toArray, List.set_cons_zero, List.set_cons_succ]
      refine wpAnyH_take (i := 16) (oi := { dst := some 53, op := Go.Op.move (Go.Operand.tmp 52), type := 4, pos := "law.go:53", after := #[{ on := 15, ground := Go.Ground.data }, { on := 12, ground := Go.Ground.chain }], guard := none }) (v := ?_) rfl (by kernel_rfl) (by kernel_rfl) (by kernel_rfl) (fun _ _ _ h => h) (Or.inl ⟨by rfl, ?_⟩) hHeld ?_
      rotate_left
      · (intro w hSw; (try dsimp only at hSw); go_simp)
        all_goals with_reducible rfl
      try simp only [Act.put, List.setIfInBounds_toArray, List.set_cons_zero, List.set_cons_succ]
      refine wpAnyH_take (i := 17) (oi := { dst := some 54, op := Go.Op.load 27 (Go.Operand.tmp 5), type := 27, pos := "law.go:53", after := #[{ on := 16, ground := Go.Ground.guard }], guard := some (16, true) }) (v := ?_) rfl (by kernel_rfl) (by kernel_rfl) (by kernel_rfl) (fun _ _ _ h => h) (Or.inl ⟨by rfl, ?_⟩) hHeld ?_
      rotate_left
      · (intro w hSw; (try dsimp only at hSw); go_simp)
        all_goals with_reducible rfl
      try simp only [Act.put, List.setIfInBounds_toArray, List.set_cons_zero, List.set_cons_succ]
      refine wpAnyH_ready (rs := [18]) (by kernel_rfl) (by simp) ?_
      refine AllReadyH.cons (o := { dst := some 55, op := Go.Op.call { callee := Go.Callee.value (Go.Operand.func 15), args := #[Go.Operand.tmp 54], argTypes := #[27] }, type := 35, pos := "law.go:53", after := #[{ on := 17, ground := Go.Ground.data }, { on := 16, ground := Go.Ground.chain }, { on := 16, ground := Go.Ground.guard }], guard := some (16, true) }) rfl (fun K hK => ?_) AllReadyH.nil
      go_simp
      go_at_call 15
      refine (hKy.out _).mono ?_
      rintro e w9 ⟨rfl, hg⟩
      replace hP := hP.bel hg; replace hQ := hQ.bel hg; replace hY := hY.bel hg; replace hd := hd.trans' hg; clear hg
      first | refine hK.out _ _ ?_ (fun hHeld => ?_) | (go_wp2_with fail; refine hK.out _ _ ?_ (fun hHeld => ?_))
      · (try dsimp only); exact ⟨hP.cells, hQ.cells, hY.cells⟩
      clear hK K
      try simp only [Act.put, List.setIfInBounds_toArray, List.set_cons_zero, List.set_cons_succ]
      refine wpAnyH_take (i := 19) (oi := { dst := some 56, op := Go.Op.binOp Go.BinOp.eql 35 (Go.Operand.tmp 55) (Go.Operand.const (Go.Value.int Go.IntKind.i64 0)) 35, type := 4, pos := "law.go:53", after := #[{ on := 18, ground := Go.Ground.data }, { on := 16, ground := Go.Ground.guard }], guard := some (16, true) }) (v := ?_) rfl (by kernel_rfl) (by kernel_rfl) (by kernel_rfl) (fun _ _ _ h => h) (Or.inl ⟨by rfl, ?_⟩) hHeld ?_
      rotate_left
      · (intro w hSw; (try dsimp only at hSw); go_simp)
        all_goals with_reducible rfl
      try simp only [Act.put, List.setIfInBounds_toArray, List.set_cons_zero, List.set_cons_succ]
      refine wpAnyH_take (i := 20) (oi := { dst := some 57, op := Go.Op.pick (Go.Operand.tmp 53) (Go.Operand.tmp 56) (Go.Operand.const (Go.Value.bool false)), type := 4, pos := "law.go:53", after := #[{ on := 16, ground := Go.Ground.data }, { on := 19, ground := Go.Ground.data }], guard := none }) (v := ?_) rfl (by kernel_rfl) (by kernel_rfl) (by kernel_rfl) (fun _ _ _ h => h) (Or.inl ⟨by rfl, ?_⟩) hHeld ?_
      rotate_left
      · (intro w hSw; (try dsimp only at hSw); go_simp)
        all_goals with_reducible rfl
      try simp only [Act.put, List.setIfInBounds_toArray, List.set_cons_zero, List.set_cons_succ]
      refine wpAnyH_take (i := 21) (oi := { dst := some 58, op := Go.Op.move (Go.Operand.tmp 57), type := 4, pos := "law.go:53", after := #[{ on := 20, ground := Go.Ground.data }, { on := 18, ground := Go.Ground.chain }], guard := none }) (v := ?_) rfl (by kernel_rfl) (by kernel_rfl) (by kernel_rfl) (fun _ _ _ h => h) (Or.inl ⟨by rfl, ?_⟩) hHeld ?_
      rotate_left
      · (intro w hSw; (try dsimp only at hSw); go_simp)
        all_goals with_reducible rfl
      try simp only [Act.put, List.setIfInBounds_toArray, List.set_cons_zero, List.set_cons_succ]
      refine wpAnyH_take (i := 22) (oi := { dst := some 59, op := Go.Op.load 27 (Go.Operand.tmp 2), type := 27, pos := "law.go:53", after := #[{ on := 21, ground := Go.Ground.guard }], guard := some (21, true) }) (v := ?_) rfl (by kernel_rfl) (by kernel_rfl) (by kernel_rfl) (fun _ _ _ h => h) (Or.inl ⟨by rfl, ?_⟩) hHeld ?_
      rotate_left
      · (intro w hSw; (try dsimp only at hSw); go_simp)
        all_goals with_reducible rfl
      try simp only [Act.put, List.setIfInBounds_toArray, List.set_cons_zero, List.set_cons_succ]
      refine wpAnyH_take (i := 24) (oi := { dst := some 61, op := Go.Op.load 27 (Go.Operand.tmp 3), type := 27, pos := "law.go:53", after := #[{ on := 21, ground := Go.Ground.guard }], guard := some (21, true) }) (v := ?_) rfl (by kernel_rfl) (by kernel_rfl) (by kernel_rfl) (fun _ _ _ h => h) (Or.inl ⟨by rfl, ?_⟩) hHeld ?_
      rotate_left
      · (intro w hSw; (try dsimp only at hSw); go_simp)
        all_goals with_reducible rfl
      try simp only [Act.put, List.setIfInBounds_toArray, List.set_cons_zero, List.set_cons_succ]
      refine wpAnyH_take (i := 27) (oi := { dst := some 64, op := Go.Op.load 27 (Go.Operand.tmp 2), type := 27, pos := "law.go:53", after := #[{ on := 21, ground := Go.Ground.guard }], guard := some (21, true) }) (v := ?_) rfl (by kernel_rfl) (by kernel_rfl) (by kernel_rfl) (fun _ _ _ h => h) (Or.inl ⟨by rfl, ?_⟩) hHeld ?_
      rotate_left
      · (intro w hSw; (try dsimp only at hSw); go_simp)
        all_goals with_reducible rfl
      try simp only [Act.put, List.setIfInBounds_toArray, List.set_cons_zero, List.set_cons_succ]
      refine wpAnyH_take (i := 28) (oi := { dst := some 65, op := Go.Op.load 27 (Go.Operand.tmp 3), type := 27, pos := "law.go:53", after := #[{ on := 21, ground := Go.Ground.guard }], guard := some (21, true) }) (v := ?_) rfl (by kernel_rfl) (by kernel_rfl) (by kernel_rfl) (fun _ _ _ h => h) (Or.inl ⟨by rfl, ?_⟩) hHeld ?_
      rotate_left
      · (intro w hSw; (try dsimp only at hSw); go_simp)
        all_goals with_reducible rfl
      try simp only [Act.put, List.setIfInBounds_toArray, List.set_cons_zero, List.set_cons_succ]
      refine wpAnyH_ready (rs := [23]) (by kernel_rfl) (by simp) ?_
      refine AllReadyH.cons (o := { dst := some 60, op := Go.Op.call { callee := Go.Callee.value (Go.Operand.func 12), args := #[Go.Operand.tmp 59], argTypes := #[27] }, type := 9, pos := "law.go:53", after := #[{ on := 22, ground := Go.Ground.data }, { on := 21, ground := Go.Ground.chain }, { on := 21, ground := Go.Ground.guard }], guard := some (21, true) }) rfl (fun K hK => ?_) AllReadyH.nil
      go_simp
      go_at_call 12
      refine (hTa.out _).mono ?_
      rintro e w9 ⟨rfl, hg⟩
      replace hP := hP.bel hg; replace hQ := hQ.bel hg; replace hY := hY.bel hg; replace hd := hd.trans' hg; clear hg
      first | refine hK.out _ _ ?_ (fun hHeld => ?_) | (go_wp2_with fail; refine hK.out _ _ ?_ (fun hHeld => ?_))
      · (try dsimp only); exact ⟨hP.cells, hQ.cells, hY.cells⟩
      clear hK K
      try simp only [Act.put, List.setIfInBounds_toArray, List.set_cons_zero, List.set_cons_succ]
      refine wpAnyH_ready (rs := [25]) (by kernel_rfl) (by simp) ?_
      refine AllReadyH.cons (o := { dst := some 62, op := Go.Op.call { callee := Go.Callee.value (Go.Operand.func 12), args := #[Go.Operand.tmp 61], argTypes := #[27] }, type := 9, pos := "law.go:53", after := #[{ on := 24, ground := Go.Ground.data }, { on := 23, ground := Go.Ground.chain }, { on := 21, ground := Go.Ground.guard }], guard := some (21, true) }) rfl (fun K hK => ?_) AllReadyH.nil
      go_simp
      go_at_call 12
      refine (hTb.out _).mono ?_
      rintro e w9 ⟨rfl, hg⟩
      replace hP := hP.bel hg; replace hQ := hQ.bel hg; replace hY := hY.bel hg; replace hd := hd.trans' hg; clear hg
      first | refine hK.out _ _ ?_ (fun hHeld => ?_) | (go_wp2_with fail; refine hK.out _ _ ?_ (fun hHeld => ?_))
      · (try dsimp only); exact ⟨hP.cells, hQ.cells, hY.cells⟩
      clear hK K
      try simp only [Act.put, List.setIfInBounds_toArray, List.set_cons_zero, List.set_cons_succ]
      refine wpAnyH_take (i := 26) (oi := { dst := some 63, op := Go.Op.binOp Go.BinOp.eql 9 (Go.Operand.tmp 60) (Go.Operand.tmp 62) 9, type := 4, pos := "law.go:53", after := #[{ on := 23, ground := Go.Ground.data }, { on := 25, ground := Go.Ground.data }, { on := 21, ground := Go.Ground.guard }], guard := some (21, true) }) (v := ?_) rfl (by kernel_rfl) (by kernel_rfl) (by kernel_rfl) (fun _ _ _ h => h) (Or.inl ⟨by rfl, ?_⟩) hHeld ?_
      rotate_left
      · (intro w hSw; (try dsimp only at hSw); go_simp)
        all_goals with_reducible rfl
      try simp only [Act.put, List.setIfInBounds_toArray, List.set_cons_zero, List.set_cons_succ]
      refine wpAnyH_ready (rs := [29]) (by kernel_rfl) (by simp) ?_
      refine AllReadyH.cons (o := { dst := some 66, op := Go.Op.call { callee := Go.Callee.value (Go.Operand.func 11), args := #[Go.Operand.tmp 64, Go.Operand.tmp 65], argTypes := #[27, 27] }, type := 4, pos := "law.go:53", after := #[{ on := 27, ground := Go.Ground.data }, { on := 28, ground := Go.Ground.data }, { on := 25, ground := Go.Ground.chain }, { on := 21, ground := Go.Ground.guard }], guard := some (21, true) }) rfl (fun K hK => ?_) AllReadyH.nil
      go_simp
      go_at_call 11
      refine (hS2.out _).mono ?_
      rintro e w9 ⟨rfl, hg⟩
      replace hP := hP.bel hg; replace hQ := hQ.bel hg; replace hY := hY.bel hg; replace hd := hd.trans' hg; clear hg
      first | refine hK.out _ _ ?_ (fun hHeld => ?_) | (go_wp2_with fail; refine hK.out _ _ ?_ (fun hHeld => ?_))
      · (try dsimp only); exact ⟨hP.cells, hQ.cells, hY.cells⟩
      clear hK K
      try simp only [Act.put, List.setIfInBounds_toArray, List.set_cons_zero, List.set_cons_succ]
      refine wpAnyH_take (i := 30) (oi := { dst := some 67, op := Go.Op.binOp Go.BinOp.eql 4 (Go.Operand.tmp 63) (Go.Operand.tmp 66) 4, type := 4, pos := "law.go:53", after := #[{ on := 26, ground := Go.Ground.data }, { on := 29, ground := Go.Ground.data }, { on := 21, ground := Go.Ground.guard }], guard := some (21, true) }) (v := ?_) rfl (by kernel_rfl) (by kernel_rfl) (by kernel_rfl) (fun _ _ _ h => h) (Or.inl ⟨by rfl, ?_⟩) hHeld ?_
      rotate_left
      · (intro w hSw; (try dsimp only at hSw); go_simp)
        all_goals with_reducible rfl
      try simp only [Act.put, List.setIfInBounds_toArray, List.set_cons_zero, List.set_cons_succ]
      refine wpAnyH_take (i := 31) (oi := { dst := some 68, op := Go.Op.pick (Go.Operand.tmp 58) (Go.Operand.tmp 67) (Go.Operand.const (Go.Value.bool false)), type := 4, pos := "law.go:53", after := #[{ on := 21, ground := Go.Ground.data }, { on := 30, ground := Go.Ground.data }], guard := none }) (v := ?_) rfl (by kernel_rfl) (by kernel_rfl) (by kernel_rfl) (fun _ _ _ h => h) (Or.inl ⟨by rfl, ?_⟩) hHeld ?_
      rotate_left
      · (intro w hSw; (try dsimp only at hSw); go_simp)
        all_goals with_reducible rfl
      try simp only [Act.put, List.setIfInBounds_toArray, List.set_cons_zero, List.set_cons_succ]
      refine wpAnyH_take (i := 32) (oi := { dst := some 69, op := Go.Op.move (Go.Operand.tmp 68), type := 4, pos := "law.go:53", after := #[{ on := 31, ground := Go.Ground.data }, { on := 29, ground := Go.Ground.chain }], guard := none }) (v := ?_) rfl (by kernel_rfl) (by kernel_rfl) (by kernel_rfl) (fun _ _ _ h => h) (Or.inl ⟨by rfl, ?_⟩) hHeld ?_
      rotate_left
      · (intro w hSw; (try dsimp only at hSw); go_simp)
        all_goals with_reducible rfl
      try simp only [Act.put, List.setIfInBounds_toArray, List.set_cons_zero, List.set_cons_succ]
      refine wpAnyH_take (i := 33) (oi := { dst := some 70, op := Go.Op.load 27 (Go.Operand.tmp 2), type := 27, pos := "law.go:53", after := #[{ on := 32, ground := Go.Ground.guard }], guard := some (32, true) }) (v := ?_) rfl (by kernel_rfl) (by kernel_rfl) (by kernel_rfl) (fun _ _ _ h => h) (Or.inl ⟨by rfl, ?_⟩) hHeld ?_
      rotate_left
      · (intro w hSw; (try dsimp only at hSw); go_simp)
        all_goals with_reducible rfl
      try simp only [Act.put, List.setIfInBounds_toArray, List.set_cons_zero, List.set_cons_succ]
      refine wpAnyH_take (i := 35) (oi := { dst := some 72, op := Go.Op.load 27 (Go.Operand.tmp 5), type := 27, pos := "law.go:53", after := #[{ on := 32, ground := Go.Ground.guard }], guard := some (32, true) }) (v := ?_) rfl (by kernel_rfl) (by kernel_rfl) (by kernel_rfl) (fun _ _ _ h => h) (Or.inl ⟨by rfl, ?_⟩) hHeld ?_
      rotate_left
      · (intro w hSw; (try dsimp only at hSw); go_simp)
        all_goals with_reducible rfl
      try simp only [Act.put, List.setIfInBounds_toArray, List.set_cons_zero, List.set_cons_succ]
      refine wpAnyH_take (i := 36) (oi := { dst := some 73, op := Go.Op.load 27 (Go.Operand.tmp 2), type := 27, pos := "law.go:53", after := #[{ on := 32, ground := Go.Ground.guard }], guard := some (32, true) }) (v := ?_) rfl (by kernel_rfl) (by kernel_rfl) (by kernel_rfl) (fun _ _ _ h => h) (Or.inl ⟨by rfl, ?_⟩) hHeld ?_
      rotate_left
      · (intro w hSw; (try dsimp only at hSw); go_simp)
        all_goals with_reducible rfl
      try simp only [Act.put, List.setIfInBounds_toArray, List.set_cons_zero, List.set_cons_succ]
      refine wpAnyH_take (i := 37) (oi := { dst := some 74, op := Go.Op.binOp Go.BinOp.eql 27 (Go.Operand.tmp 72) (Go.Operand.tmp 73) 27, type := 4, pos := "law.go:53", after := #[{ on := 35, ground := Go.Ground.data }, { on := 36, ground := Go.Ground.data }, { on := 32, ground := Go.Ground.guard }], guard := some (32, true) }) (v := ?_) rfl (by kernel_rfl) (by kernel_rfl) (by kernel_rfl) (fun _ _ _ h => h) (Or.inl ⟨by rfl, ?_⟩) hHeld ?_
      rotate_left
      · (intro w hSw; (try dsimp only at hSw); go_simp)
        all_goals with_reducible rfl
      try simp only [Act.put, List.setIfInBounds_toArray, List.set_cons_zero, List.set_cons_succ]
      refine wpAnyH_ready (rs := [34]) (by kernel_rfl) (by simp) ?_
      refine AllReadyH.cons (o := { dst := some 71, op := Go.Op.call { callee := Go.Callee.value (Go.Operand.func 17), args := #[Go.Operand.tmp 70], argTypes := #[27] }, type := 4, pos := "law.go:53", after := #[{ on := 33, ground := Go.Ground.data }, { on := 32, ground := Go.Ground.chain }, { on := 32, ground := Go.Ground.guard }], guard := some (32, true) }) rfl (fun K hK => ?_) AllReadyH.nil
      go_simp
      go_at_call 17
      refine (hGa.out _).mono ?_
      rintro e w9 ⟨rfl, hg⟩
      replace hP := hP.bel hg; replace hQ := hQ.bel hg; replace hY := hY.bel hg; replace hd := hd.trans' hg; clear hg
      first | refine hK.out _ _ ?_ (fun hHeld => ?_) | (go_wp2_with fail; refine hK.out _ _ ?_ (fun hHeld => ?_))
      · (try dsimp only); exact ⟨hP.cells, hQ.cells, hY.cells⟩
      clear hK K
      try simp only [Act.put, List.setIfInBounds_toArray, List.set_cons_zero, List.set_cons_succ]
      refine wpAnyH_take (i := 38) (oi := { dst := some 75, op := Go.Op.move (Go.Operand.tmp 74), type := 4, pos := "law.go:53", after := #[{ on := 37, ground := Go.Ground.data }, { on := 34, ground := Go.Ground.chain }, { on := 32, ground := Go.Ground.guard }], guard := some (32, true) }) (v := ?_) rfl (by kernel_rfl) (by kernel_rfl) (by kernel_rfl) (fun _ _ _ h => h) (Or.inl ⟨by rfl, ?_⟩) hHeld ?_
      rotate_left
      · (intro w hSw; (try dsimp only at hSw); go_simp)
        all_goals with_reducible rfl
      try simp only [Act.put, List.setIfInBounds_toArray, List.set_cons_zero, List.set_cons_succ]
      refine wpAnyH_take (i := 39) (oi := { dst := some 76, op := Go.Op.load 27 (Go.Operand.tmp 5), type := 27, pos := "law.go:53", after := #[{ on := 38, ground := Go.Ground.guard }], guard := some (38, true) }) (v := undef) rfl (by kernel_rfl) (by kernel_rfl) (by kernel_rfl) (fun _ _ _ h => h) (Or.inr ⟨by kernel_rfl, rfl⟩) hHeld ?_
      try simp only [Act.put, List.setIfInBounds_toArray, List.set_cons_zero, List.set_cons_succ]
      refine wpAnyH_take (i := 40) (oi := { dst := some 77, op := Go.Op.call { callee := Go.Callee.value (Go.Operand.func 17), args := #[Go.Operand.tmp 76], argTypes := #[27] }, type := 4, pos := "law.go:53", after := #[{ on := 39, ground := Go.Ground.data }, { on := 38, ground := Go.Ground.chain }, { on := 38, ground := Go.Ground.guard }], guard := some (38, true) }) (v := undef) rfl (by kernel_rfl) (by kernel_rfl) (by kernel_rfl) (fun _ _ _ h => h) (Or.inr ⟨by kernel_rfl, rfl⟩) hHeld ?_
      try simp only [Act.put, List.setIfInBounds_toArray, List.set_cons_zero, List.set_cons_succ]
      refine wpAnyH_take (i := 41) (oi := { dst := some 78, op := Go.Op.pick (Go.Operand.tmp 75) (Go.Operand.tmp 77) (Go.Operand.const (Go.Value.bool false)), type := 4, pos := "law.go:53", after := #[{ on := 38, ground := Go.Ground.data }, { on := 40, ground := Go.Ground.data }, { on := 32, ground := Go.Ground.guard }], guard := some (32, true) }) (v := ?_) rfl (by kernel_rfl) (by kernel_rfl) (by kernel_rfl) (fun _ _ _ h => h) (Or.inl ⟨by rfl, ?_⟩) hHeld ?_
      rotate_left
      · (intro w hSw; (try dsimp only at hSw); go_simp)
        all_goals with_reducible rfl
      try simp only [Act.put, List.setIfInBounds_toArray, List.set_cons_zero, List.set_cons_succ]
      refine wpAnyH_take (i := 42) (oi := { dst := some 79, op := Go.Op.binOp Go.BinOp.eql 4 (Go.Operand.tmp 71) (Go.Operand.tmp 78) 4, type := 4, pos := "law.go:53", after := #[{ on := 34, ground := Go.Ground.data }, { on := 41, ground := Go.Ground.data }, { on := 32, ground := Go.Ground.guard }], guard := some (32, true) }) (v := ?_) rfl (by kernel_rfl) (by kernel_rfl) (by kernel_rfl) (fun _ _ _ h => h) (Or.inl ⟨by rfl, ?_⟩) hHeld ?_
      rotate_left
      · (intro w hSw; (try dsimp only at hSw); go_simp)
        all_goals with_reducible rfl
      try simp only [Act.put, List.setIfInBounds_toArray, List.set_cons_zero, List.set_cons_succ]
      refine wpAnyH_take (i := 43) (oi := { dst := some 80, op := Go.Op.pick (Go.Operand.tmp 69) (Go.Operand.tmp 79) (Go.Operand.const (Go.Value.bool false)), type := 4, pos := "law.go:53", after := #[{ on := 32, ground := Go.Ground.data }, { on := 42, ground := Go.Ground.data }], guard := none }) (v := ?_) rfl (by kernel_rfl) (by kernel_rfl) (by kernel_rfl) (fun _ _ _ h => h) (Or.inl ⟨by rfl, ?_⟩) hHeld ?_
      rotate_left
      · (intro w hSw; (try dsimp only at hSw); go_simp)
        all_goals with_reducible rfl
      try simp only [Act.put, List.setIfInBounds_toArray, List.set_cons_zero, List.set_cons_succ]
      refine wpAnyH_take (i := 44) (oi := { dst := some 4, op := Go.Op.assign (Go.Operand.tmp 80), type := 4, pos := "law.go:53", after := #[{ on := 43, ground := Go.Ground.data }, { on := 40, ground := Go.Ground.chain }, { on := 0, ground := Go.Ground.phase }, { on := 1, ground := Go.Ground.phase }, { on := 2, ground := Go.Ground.phase }, { on := 3, ground := Go.Ground.phase }, { on := 4, ground := Go.Ground.phase }, { on := 5, ground := Go.Ground.phase }, { on := 6, ground := Go.Ground.phase }, { on := 7, ground := Go.Ground.phase }, { on := 8, ground := Go.Ground.phase }, { on := 9, ground := Go.Ground.phase }, { on := 10, ground := Go.Ground.phase }, { on := 11, ground := Go.Ground.phase }, { on := 12, ground := Go.Ground.phase }, { on := 13, ground := Go.Ground.phase }, { on := 14, ground := Go.Ground.phase }, { on := 15, ground := Go.Ground.phase }, { on := 16, ground := Go.Ground.phase }, { on := 17, ground := Go.Ground.phase }, { on := 18, ground := Go.Ground.phase }, { on := 19, ground := Go.Ground.phase }, { on := 20, ground := Go.Ground.phase }, { on := 21, ground := Go.Ground.phase }, { on := 22, ground := Go.Ground.phase }, { on := 23, ground := Go.Ground.phase }, { on := 24, ground := Go.Ground.phase }, { on := 25, ground := Go.Ground.phase }, { on := 26, ground := Go.Ground.phase }, { on := 27, ground := Go.Ground.phase }, { on := 28, ground := Go.Ground.phase }, { on := 29, ground := Go.Ground.phase }, { on := 30, ground := Go.Ground.phase }, { on := 31, ground := Go.Ground.phase }, { on := 32, ground := Go.Ground.phase }, { on := 33, ground := Go.Ground.phase }, { on := 34, ground := Go.Ground.phase }, { on := 35, ground := Go.Ground.phase }, { on := 36, ground := Go.Ground.phase }, { on := 37, ground := Go.Ground.phase }, { on := 38, ground := Go.Ground.phase }, { on := 39, ground := Go.Ground.phase }, { on := 40, ground := Go.Ground.phase }, { on := 41, ground := Go.Ground.phase }, { on := 42, ground := Go.Ground.phase }, { on := 43, ground := Go.Ground.phase }], guard := none }) (v := ?_) rfl (by kernel_rfl) (by kernel_rfl) (by kernel_rfl) (fun _ _ _ h => h) (Or.inl ⟨by rfl, ?_⟩) hHeld ?_
      rotate_left
      · (intro w hSw; (try dsimp only at hSw); go_simp)
        all_goals with_reducible rfl
      try simp only [Act.put, List.setIfInBounds_toArray, List.set_cons_zero, List.set_cons_succ]
      refine wpAnyH_done (by kernel_rfl) ?_ _
      all_goals go_wp2
      all_goals go_ret
      all_goals exact ⟨rfl, HB.out.trans' hd⟩
    case true =>
      rw [he] at hc4
      clear he HGE
      have hd : Bel w8 w8.drew := bel_drew' (Below.refl _ _)
      have HB := Lib.hid hb
      clear hb hU1 hU2
      replace hP := hP.drew
      replace hQ := hQ.drew
      replace hY := hY.drew
      go_wp2
      go_region_held3 (fun w' => (w'.cell? ⟨w.heap.size, 0, none⟩ = some (.string a.says) ∧ w'.cell? ⟨w.heap.size, 1, none⟩ = some (.string a.pred) ∧ w'.cell? ⟨w.heap.size, 2, none⟩ = some (.int .i64 a.n) ∧ w'.cell? ⟨w.heap.size, 3, none⟩ = some (.bool a.t0.v) ∧ w'.cell? ⟨w.heap.size, 4, none⟩ = some (.string a.t0.name) ∧ w'.cell? ⟨w.heap.size, 5, none⟩ = some (.bool a.t1.v) ∧ w'.cell? ⟨w.heap.size, 6, none⟩ = some (.string a.t1.name) ∧ w'.cell? ⟨w.heap.size, 7, none⟩ = some (.bool a.t2.v) ∧ w'.cell? ⟨w.heap.size, 8, none⟩ = some (.string a.t2.name) ∧ w'.cell? ⟨w.heap.size, 9, none⟩ = some (.bool a.t3.v) ∧ w'.cell? ⟨w.heap.size, 10, none⟩ = some (.string a.t3.name)) ∧ (w'.cell? ⟨w.heap.size + 1, 0, none⟩ = some (.string b.says) ∧ w'.cell? ⟨w.heap.size + 1, 1, none⟩ = some (.string b.pred) ∧ w'.cell? ⟨w.heap.size + 1, 2, none⟩ = some (.int .i64 b.n) ∧ w'.cell? ⟨w.heap.size + 1, 3, none⟩ = some (.bool b.t0.v) ∧ w'.cell? ⟨w.heap.size + 1, 4, none⟩ = some (.string b.t0.name) ∧ w'.cell? ⟨w.heap.size + 1, 5, none⟩ = some (.bool b.t1.v) ∧ w'.cell? ⟨w.heap.size + 1, 6, none⟩ = some (.string b.t1.name) ∧ w'.cell? ⟨w.heap.size + 1, 7, none⟩ = some (.bool b.t2.v) ∧ w'.cell? ⟨w.heap.size + 1, 8, none⟩ = some (.string b.t2.name) ∧ w'.cell? ⟨w.heap.size + 1, 9, none⟩ = some (.bool b.t3.v) ∧ w'.cell? ⟨w.heap.size + 1, 10, none⟩ = some (.string b.t3.name)) ∧ (w'.cell? ⟨w6.heap.size, 0, none⟩ = some (.string y.says) ∧ w'.cell? ⟨w6.heap.size, 1, none⟩ = some (.string y.pred) ∧ w'.cell? ⟨w6.heap.size, 2, none⟩ = some (.int .i64 y.n) ∧ w'.cell? ⟨w6.heap.size, 3, none⟩ = some (.bool y.t0.v) ∧ w'.cell? ⟨w6.heap.size, 4, none⟩ = some (.string y.t0.name) ∧ w'.cell? ⟨w6.heap.size, 5, none⟩ = some (.bool y.t1.v) ∧ w'.cell? ⟨w6.heap.size, 6, none⟩ = some (.string y.t1.name) ∧ w'.cell? ⟨w6.heap.size, 7, none⟩ = some (.bool y.t2.v) ∧ w'.cell? ⟨w6.heap.size, 8, none⟩ = some (.string y.t2.name) ∧ w'.cell? ⟨w6.heap.size, 9, none⟩ = some (.bool y.t3.v) ∧ w'.cell? ⟨w6.heap.size, 10, none⟩ = some (.string y.t3.name))) (first | exact ⟨hP.cells, hQ.cells, hY.cells⟩ | go_keep | trivial)
        (first | (go_at_call 11; have gate := hS; refine (hS.out _).mono ?_; rintro e w9 ⟨rfl, hg⟩; clear gate hS; replace hP := hP.bel hg; replace hQ := hQ.bel hg; replace hY := hY.bel hg; replace hd := hd.trans' hg; clear hg) | (go_at_call 11; have gate := hSy; refine (hSy.out _).mono ?_; rintro e w9 ⟨rfl, hg⟩; clear gate hSy; replace hP := hP.bel hg; replace hQ := hQ.bel hg; replace hY := hY.bel hg; replace hd := hd.trans' hg; clear hg) | (go_at_call 11; refine (hS2.out _).mono ?_; rintro e w9 ⟨rfl, hg⟩; replace hP := hP.bel hg; replace hQ := hQ.bel hg; replace hY := hY.bel hg; replace hd := hd.trans' hg; clear hg) | (go_at_call 13; refine (hCy.out _).mono ?_; rintro e w9 ⟨⟨q9, HQ9, rfl⟩, hg⟩; obtain rfl := HQ9.out.symm; replace hP := hP.bel hg; replace hQ := hQ.bel hg; replace hY := hY.bel hg; replace hd := hd.trans' hg; clear hg) | (go_at_call 15; refine (hKy.out _).mono ?_; rintro e w9 ⟨rfl, hg⟩; replace hP := hP.bel hg; replace hQ := hQ.bel hg; replace hY := hY.bel hg; replace hd := hd.trans' hg; clear hg) | (go_at_call 12; have gate := hTa; refine (hTa.out _).mono ?_; rintro e w9 ⟨rfl, hg⟩; clear gate hTa; replace hP := hP.bel hg; replace hQ := hQ.bel hg; replace hY := hY.bel hg; replace hd := hd.trans' hg; clear hg) | (go_at_call 12; refine (hTb.out _).mono ?_; rintro e w9 ⟨rfl, hg⟩; replace hP := hP.bel hg; replace hQ := hQ.bel hg; replace hY := hY.bel hg; replace hd := hd.trans' hg; clear hg) | (go_at_call 17; have gate := hGa; refine (hGa.out _).mono ?_; rintro e w9 ⟨rfl, hg⟩; clear gate hGa; replace hP := hP.bel hg; replace hQ := hQ.bel hg; replace hY := hY.bel hg; replace hd := hd.trans' hg; clear hg) | (go_at_call 17; refine (hGy.out _).mono ?_; rintro e w9 ⟨rfl, hg⟩; replace hP := hP.bel hg; replace hQ := hQ.bel hg; replace hY := hY.bel hg; replace hd := hd.trans' hg; clear hg))
      all_goals go_wp2
      all_goals go_ret
      all_goals exact ⟨rfl, HB.out.trans' hd⟩
end Go.Proofs.YtiokjjiakcbmhaaDoor
