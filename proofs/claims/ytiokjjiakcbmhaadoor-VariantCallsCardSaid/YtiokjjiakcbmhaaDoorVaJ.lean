/-
  The law VariantCalls for every input. Conditions: what came in lies as its parameters' types say.
-/
import Derived.Test.YtiokjjiakcbmhaaDoorVaI
namespace Go.Proofs.YtiokjjiakcbmhaaDoor
open Go.RowKit

set_option maxRecDepth 20000 in
set_option maxHeartbeats 16000000 in
theorem lawVariantCalls (a b : AtomD) (A : Option Addr) (l : List AtomD) (ca : Nat) (w : World) (hak : AtomOk a) (hbk : AtomOk b) (hL : AL w A ca l) (hlk : ∀ x ∈ l, AtomOk x) (hll : l.length ≤ 9223372036854775807) :
    Calls Tryd.prog 7 #[.agg #[.string a.says, .string a.pred, .int .i64 a.n, .bool a.t0.v, .string a.t0.name, .bool a.t1.v, .string a.t1.name, .bool a.t2.v, .string a.t2.name, .bool a.t3.v, .string a.t3.name], .agg #[.string b.says, .string b.pred, .int .i64 b.n, .bool b.t0.v, .string b.t0.name, .bool b.t1.v, .string b.t1.name, .bool b.t2.v, .string b.t2.name, .bool b.t3.v, .string b.t3.name], .slice A l.length ca] w fun e w' => e = .returned (.bool true) ∧ Bel w w' := by
  have hP := AtomAt.new w a
  have hP := hP.bel (bel_alloc (w.alloc (.cells #[.string a.says, .string a.pred, .int .i64 a.n, .bool a.t0.v, .string a.t0.name, .bool a.t1.v, .string a.t1.name, .bool a.t2.v, .string a.t2.name, .bool a.t3.v, .string a.t3.name] 27)) (.cells #[.string b.says, .string b.pred, .int .i64 b.n, .bool b.t0.v, .string b.t0.name, .bool b.t1.v, .string b.t1.name, .bool b.t2.v, .string b.t2.name, .bool b.t3.v, .string b.t3.name] 27))
  have hQ := AtomAt.new (w.alloc (.cells #[.string a.says, .string a.pred, .int .i64 a.n, .bool a.t0.v, .string a.t0.name, .bool a.t1.v, .string a.t1.name, .bool a.t2.v, .string a.t2.name, .bool a.t3.v, .string a.t3.name] 27)) b
  rw [show (w.alloc (.cells #[.string a.says, .string a.pred, .int .i64 a.n, .bool a.t0.v, .string a.t0.name, .bool a.t1.v, .string a.t1.name, .bool a.t2.v, .string a.t2.name, .bool a.t3.v, .string a.t3.name] 27)).heap.size = w.heap.size + 1 by simp] at hQ
  have hb := (bel_alloc w (.cells #[.string a.says, .string a.pred, .int .i64 a.n, .bool a.t0.v, .string a.t0.name, .bool a.t1.v, .string a.t1.name, .bool a.t2.v, .string a.t2.name, .bool a.t3.v, .string a.t3.name] 27)).trans' (bel_alloc (w.alloc (.cells #[.string a.says, .string a.pred, .int .i64 a.n, .bool a.t0.v, .string a.t0.name, .bool a.t1.v, .string a.t1.name, .bool a.t2.v, .string a.t2.name, .bool a.t3.v, .string a.t3.name] 27)) (.cells #[.string b.says, .string b.pred, .int .i64 b.n, .bool b.t0.v, .string b.t0.name, .bool b.t1.v, .string b.t1.name, .bool b.t2.v, .string b.t2.name, .bool b.t3.v, .string b.t3.name] 27))
  have HL := Lib.hid hL
  have HLK := Lib.hid hlk
  have hLl := Lib.hid (fun W (hg : Bel w W) => lightAs_any A l ca 40 W (HL.out.bel hg) hll HLK.out)
  clear hL hlk
  have hLa := Lib.hid (fun W => light_any a W hak)
  have hLb := Lib.hid (fun W => light_any b W hbk)
  cases q0 : lightA a
  case false =>
    rw [q0] at hLa
    clear q0
    go_enter Tryd.func7, Tryd.ntmps7
    go_wp2_with (fail)
    refine (lives7_any _).mono ?_
    rintro e w1 ⟨rfl, hg⟩
    have hP := hP.bel hg
    have hQ := hQ.bel hg
    have hb := hb.trans' hg
    clear hg
    obtain ⟨c0, c1, c2, c3, c4, c5, c6, c7, c8, c9, c10⟩ := hP.cells
    go_wp2_with (fail)
    refine (hLa.out _).mono ?_
    rintro e w2 ⟨rfl, hg⟩
    have hP := hP.bel hg
    have hQ := hQ.bel hg
    have hb := hb.trans' hg
    clear hg
    clear c0 c1 c2 c3 c4 c5 c6 c7 c8 c9 c10
    obtain ⟨c0, c1, c2, c3, c4, c5, c6, c7, c8, c9, c10⟩ := hQ.cells
    go_wp2
    go_ret
    exact ⟨rfl, hb⟩
  rw [q0] at hLa
  cases q1 : lightA b
  case false =>
    rw [q1] at hLb
    clear q1 q0
    go_enter Tryd.func7, Tryd.ntmps7
    go_wp2_with (fail)
    refine (lives7_any _).mono ?_
    rintro e w1 ⟨rfl, hg⟩
    have hP := hP.bel hg
    have hQ := hQ.bel hg
    have hb := hb.trans' hg
    clear hg
    obtain ⟨c0, c1, c2, c3, c4, c5, c6, c7, c8, c9, c10⟩ := hP.cells
    go_wp2_with (fail)
    refine (hLa.out _).mono ?_
    rintro e w2 ⟨rfl, hg⟩
    have hP := hP.bel hg
    have hQ := hQ.bel hg
    have hb := hb.trans' hg
    clear hg
    clear c0 c1 c2 c3 c4 c5 c6 c7 c8 c9 c10
    obtain ⟨c0, c1, c2, c3, c4, c5, c6, c7, c8, c9, c10⟩ := hQ.cells
    go_wp2_with (fail)
    refine (hLb.out _).mono ?_
    rintro e w3 ⟨rfl, hg⟩
    have hP := hP.bel hg
    have hQ := hQ.bel hg
    have hb := hb.trans' hg
    clear hg
    clear c0 c1 c2 c3 c4 c5 c6 c7 c8 c9 c10
    go_wp2
    go_ret
    exact ⟨rfl, hb⟩
  rw [q1] at hLb
  cases q2 : lightAs l 40
  case false =>
    rw [q2] at hLl
    clear q2 q0 q1
    go_enter Tryd.func7, Tryd.ntmps7
    go_wp2_with (fail)
    refine (lives7_any _).mono ?_
    rintro e w1 ⟨rfl, hg⟩
    have hP := hP.bel hg
    have hQ := hQ.bel hg
    have hb := hb.trans' hg
    clear hg
    obtain ⟨c0, c1, c2, c3, c4, c5, c6, c7, c8, c9, c10⟩ := hP.cells
    go_wp2_with (fail)
    refine (hLa.out _).mono ?_
    rintro e w2 ⟨rfl, hg⟩
    have hP := hP.bel hg
    have hQ := hQ.bel hg
    have hb := hb.trans' hg
    clear hg
    clear c0 c1 c2 c3 c4 c5 c6 c7 c8 c9 c10
    obtain ⟨c0, c1, c2, c3, c4, c5, c6, c7, c8, c9, c10⟩ := hQ.cells
    go_wp2_with (fail)
    refine (hLb.out _).mono ?_
    rintro e w3 ⟨rfl, hg⟩
    have hP := hP.bel hg
    have hQ := hQ.bel hg
    have hb := hb.trans' hg
    clear hg
    clear c0 c1 c2 c3 c4 c5 c6 c7 c8 c9 c10
    go_wp2_with (fail)
    refine (hLl.out _ hb).mono ?_
    rintro e w4 ⟨rfl, hg⟩
    have hP := hP.bel hg
    have hQ := hQ.bel hg
    have hb := hb.trans' hg
    clear hg
    obtain ⟨c0, c1, c2, c3, c4, c5, c6, c7, c8, c9, c10⟩ := hP.cells
    obtain ⟨d0, d1, d2, d3, d4, d5, d6, d7, d8, d9, d10⟩ := hQ.cells
    go_wp2
    go_ret
    exact ⟨rfl, hb⟩
  rw [q2] at hLl
  obtain ⟨h40, hlt⟩ := light_each q2
  have HG : RowKit.Hid (∀ x ∈ l, AtomOk x ∧ AtomSm x) := Lib.hid (fun x hx => ⟨HLK.out x hx, AtomOk.sm (hlt x hx)⟩)
  have HSM : RowKit.Hid (∀ x ∈ l, AtomSm x) := Lib.hid (fun x hx => (HG.out x hx).2)
  have hl40 : l.length ≤ 40 := by omega
  have hdl : (distinctD l).length ≤ 40 := Nat.le_trans (distinct_le l) hl40
  have sa := AtomOk.sm q0
  have sb := AtomOk.sm q1
  obtain ⟨ya, hya⟩ : ∃ y, y = canonD a := ⟨_, rfl⟩
  obtain ⟨kt, hkt⟩ : ∃ k, k = textD (canonD a) := ⟨_, rfl⟩
  obtain ⟨eq, heq⟩ : ∃ e, e = eqA (canonD a) (canonD b) := ⟨_, rfl⟩
  have hC1 := Lib.hid (fun W => Canon_any a W sa.args)
  have hC2 := Lib.hid (fun W => rCanon_any a W sa.args)
  have hK1 := Lib.hid (fun W => KeyV_any a W sa)
  have hK2 := Lib.hid (fun W => rKeyV_any a W sa)
  have hS1 := Lib.hid (fun W => SameV_any a b W sa.args sb.args)
  have hS2 := Lib.hid (fun W => rSameV_any a b W sa.args sb.args)
  rw [← hya] at hC1 hC2
  rw [← hkt] at hK1 hK2
  rw [← heq] at hS1 hS2
  have hc1 := eql_atom ya ya
  rw [eqA_self ya] at hc1
  have hc2 : (kt.toList == kt.toList) = true := by simp
  have hc3 : (eq == eq) = true := by simp
  clear hya hkt heq sa sb q0 q1 q2 hlt h40 hll hak hbk
  go_enter Tryd.func7, Tryd.ntmps7
  go_wp2_with (fail)
  refine (lives7_any _).mono ?_
  rintro e w1 ⟨rfl, hg⟩
  have hP := hP.bel hg
  have hQ := hQ.bel hg
  have hb := hb.trans' hg
  clear hg
  obtain ⟨c0, c1, c2, c3, c4, c5, c6, c7, c8, c9, c10⟩ := hP.cells
  go_wp2_with (fail)
  refine (hLa.out _).mono ?_
  rintro e w2 ⟨rfl, hg⟩
  have hP := hP.bel hg
  have hQ := hQ.bel hg
  have hb := hb.trans' hg
  clear hg
  clear c0 c1 c2 c3 c4 c5 c6 c7 c8 c9 c10
  obtain ⟨c0, c1, c2, c3, c4, c5, c6, c7, c8, c9, c10⟩ := hQ.cells
  go_wp2_with (fail)
  refine (hLb.out _).mono ?_
  rintro e w3 ⟨rfl, hg⟩
  have hP := hP.bel hg
  have hQ := hQ.bel hg
  have hb := hb.trans' hg
  clear hg
  clear c0 c1 c2 c3 c4 c5 c6 c7 c8 c9 c10
  go_wp2_with (fail)
  refine (hLl.out _ hb).mono ?_
  rintro e w4 ⟨rfl, hg⟩
  have hP := hP.bel hg
  have hQ := hQ.bel hg
  have hb := hb.trans' hg
  clear hg
  obtain ⟨c0, c1, c2, c3, c4, c5, c6, c7, c8, c9, c10⟩ := hP.cells
  obtain ⟨d0, d1, d2, d3, d4, d5, d6, d7, d8, d9, d10⟩ := hQ.cells
  replace hP := hP.drew
  replace hQ := hQ.drew
  have hd := bel_drew' (Below.refl w4.heap.size w4)
  have HB := Lib.hid hb
  clear hb hLa hLb hLl
  go_wp2
  go_region_held3 (fun w' => (w'.cell? ⟨w.heap.size, 0, none⟩ = some (.string a.says) ∧ w'.cell? ⟨w.heap.size, 1, none⟩ = some (.string a.pred) ∧ w'.cell? ⟨w.heap.size, 2, none⟩ = some (.int .i64 a.n) ∧ w'.cell? ⟨w.heap.size, 3, none⟩ = some (.bool a.t0.v) ∧ w'.cell? ⟨w.heap.size, 4, none⟩ = some (.string a.t0.name) ∧ w'.cell? ⟨w.heap.size, 5, none⟩ = some (.bool a.t1.v) ∧ w'.cell? ⟨w.heap.size, 6, none⟩ = some (.string a.t1.name) ∧ w'.cell? ⟨w.heap.size, 7, none⟩ = some (.bool a.t2.v) ∧ w'.cell? ⟨w.heap.size, 8, none⟩ = some (.string a.t2.name) ∧ w'.cell? ⟨w.heap.size, 9, none⟩ = some (.bool a.t3.v) ∧ w'.cell? ⟨w.heap.size, 10, none⟩ = some (.string a.t3.name)) ∧ (w'.cell? ⟨w.heap.size + 1, 0, none⟩ = some (.string b.says) ∧ w'.cell? ⟨w.heap.size + 1, 1, none⟩ = some (.string b.pred) ∧ w'.cell? ⟨w.heap.size + 1, 2, none⟩ = some (.int .i64 b.n) ∧ w'.cell? ⟨w.heap.size + 1, 3, none⟩ = some (.bool b.t0.v) ∧ w'.cell? ⟨w.heap.size + 1, 4, none⟩ = some (.string b.t0.name) ∧ w'.cell? ⟨w.heap.size + 1, 5, none⟩ = some (.bool b.t1.v) ∧ w'.cell? ⟨w.heap.size + 1, 6, none⟩ = some (.string b.t1.name) ∧ w'.cell? ⟨w.heap.size + 1, 7, none⟩ = some (.bool b.t2.v) ∧ w'.cell? ⟨w.heap.size + 1, 8, none⟩ = some (.string b.t2.name) ∧ w'.cell? ⟨w.heap.size + 1, 9, none⟩ = some (.bool b.t3.v) ∧ w'.cell? ⟨w.heap.size + 1, 10, none⟩ = some (.string b.t3.name))) (first | exact ⟨hP.cells, hQ.cells⟩ | go_keep | trivial)
    (first | (go_at_call 13; refine (hC1.out _).mono ?_; rintro e w9 ⟨⟨q, HQ, rfl⟩, hg⟩; obtain rfl := HQ.out.symm; replace hP := hP.bel hg; replace hQ := hQ.bel hg; replace hd := hd.trans' hg; (try replace hOw := Lib.hid (hOw.out.bel hg)); (try replace hDi := Lib.hid (hDi.out.bel hg)); (try replace hRd := Lib.hid (hRd.out.bel hg)); clear hg) | (go_at_call 25; refine (hC2.out _).mono ?_; rintro e w9 ⟨⟨q, HQ, rfl⟩, hg⟩; obtain rfl := HQ.out.symm; replace hP := hP.bel hg; replace hQ := hQ.bel hg; replace hd := hd.trans' hg; (try replace hOw := Lib.hid (hOw.out.bel hg)); (try replace hDi := Lib.hid (hDi.out.bel hg)); (try replace hRd := Lib.hid (hRd.out.bel hg)); clear hg) | (go_at_call 12; refine (hK1.out _).mono ?_; rintro e w9 ⟨rfl, hg⟩; replace hP := hP.bel hg; replace hQ := hQ.bel hg; replace hd := hd.trans' hg; (try replace hOw := Lib.hid (hOw.out.bel hg)); (try replace hDi := Lib.hid (hDi.out.bel hg)); (try replace hRd := Lib.hid (hRd.out.bel hg)); clear hg) | (go_at_call 26; refine (hK2.out _).mono ?_; rintro e w9 ⟨rfl, hg⟩; replace hP := hP.bel hg; replace hQ := hQ.bel hg; replace hd := hd.trans' hg; (try replace hOw := Lib.hid (hOw.out.bel hg)); (try replace hDi := Lib.hid (hDi.out.bel hg)); (try replace hRd := Lib.hid (hRd.out.bel hg)); clear hg) | (go_at_call 11; refine (hS1.out _).mono ?_; rintro e w9 ⟨rfl, hg⟩; replace hP := hP.bel hg; replace hQ := hQ.bel hg; replace hd := hd.trans' hg; (try replace hOw := Lib.hid (hOw.out.bel hg)); (try replace hDi := Lib.hid (hDi.out.bel hg)); (try replace hRd := Lib.hid (hRd.out.bel hg)); clear hg) | (go_at_call 27; refine (hS2.out _).mono ?_; rintro e w9 ⟨rfl, hg⟩; replace hP := hP.bel hg; replace hQ := hQ.bel hg; replace hd := hd.trans' hg; (try replace hOw := Lib.hid (hOw.out.bel hg)); (try replace hDi := Lib.hid (hDi.out.bel hg)); (try replace hRd := Lib.hid (hRd.out.bel hg)); clear hg) | (go_at_call 23; refine (ownA_any A l l.length ca rfl _ (HL.out.bel (HB.out.trans' hd)) (by omega)).mono ?_; rintro e w9 ⟨⟨qo, co, HOo, rfl⟩, hg⟩; replace hP := hP.bel hg; replace hQ := hQ.bel hg; replace hd := hd.trans' hg; (try replace hOw := Lib.hid (hOw.out.bel hg)); (try replace hDi := Lib.hid (hDi.out.bel hg)); (try replace hRd := Lib.hid (hRd.out.bel hg)); have hOw := Lib.hid (al_own HOo.out); clear hg HOo) | (go_at_call 10; refine (DistinctV_any qo l l.length co rfl _ hOw.out (by omega) HG.out).mono ?_; rintro e w9 ⟨⟨qd, cd, HOd, rfl⟩, hg⟩; replace hP := hP.bel hg; replace hQ := hQ.bel hg; replace hd := hd.trans' hg; (try replace hOw := Lib.hid (hOw.out.bel hg)); (try replace hDi := Lib.hid (hDi.out.bel hg)); (try replace hRd := Lib.hid (hRd.out.bel hg)); have hDi := Lib.hid (al_own HOd.out); clear hg HOd) | (go_at_call 28; refine (rDistinctV_any A l ca _ (HL.out.bel (HB.out.trans' hd)) (by omega) HSM.out).mono ?_; rintro e w9 ⟨⟨qr, cr, HOr, rfl⟩, hg⟩; replace hP := hP.bel hg; replace hQ := hQ.bel hg; replace hd := hd.trans' hg; (try replace hOw := Lib.hid (hOw.out.bel hg)); (try replace hDi := Lib.hid (hDi.out.bel hg)); (try replace hRd := Lib.hid (hRd.out.bel hg)); have hRd := Lib.hid (al_own HOr.out); clear hg HOr) | (go_at_call 24; refine (sameA_any qd (distinctD l) _ cd rfl qr _ cr rfl _ hDi.out hRd.out (by omega)).mono ?_; rintro e w9 ⟨rfl, hg⟩; replace hP := hP.bel hg; replace hQ := hQ.bel hg; replace hd := hd.trans' hg; (try replace hOw := Lib.hid (hOw.out.bel hg)); (try replace hDi := Lib.hid (hDi.out.bel hg)); (try replace hRd := Lib.hid (hRd.out.bel hg)); clear hg))
  all_goals go_wp2
  all_goals go_ret
  all_goals exact ⟨rfl, HB.out.trans' hd⟩
end Go.Proofs.YtiokjjiakcbmhaaDoor
