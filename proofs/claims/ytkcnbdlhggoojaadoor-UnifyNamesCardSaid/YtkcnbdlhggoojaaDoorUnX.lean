/-
  The law UnifyNames. Condition: as it says.
-/
import Derived.Test.YtkcnbdlhggoojaaDoorUnXh
namespace Go.Proofs.YtkcnbdlhggoojaaDoor
open Go.RowKit

set_option maxRecDepth 20000 in
set_option maxHeartbeats 16000000 in
theorem lawUnifyNames (w : World) (ev : Value) (hv : w.cell? ⟨1, 0, none⟩ = some ev) (hev : ev = .nilIface ∨ ∃ te pe, ev = .iface te pe) :
    Calls Tryd.prog 3 #[] w fun e w' => e = .returned (.bool true) ∧ Bel w w' := by
  have hb : Bel w w := Below.refl _ _
  have HV := Lib.hid hv
  have HEV := Lib.hid hev
  clear hv hev
  go_enter Tryd.func3, Tryd.ntmps3
  go_wp2_with (fail)
  refine (lives6_any _).mono ?_
  rintro e w1 ⟨rfl, hg⟩
  have hb := hb.trans' hg
  clear hg
  go_wp2_with (fail)
  refine (kQ pr6 [nA, nB] 2 #[.string ⟨#[65]⟩, .string ⟨#[66]⟩] rfl rfl (by decide) (by decide +kernel) _).mono ?_
  rintro e w2 ⟨⟨a1, Ha1, rfl⟩, hg⟩
  have hb := hb.trans' hg
  clear hg
  go_wp2_with (fail)
  refine (kQ pr6 [nB, nC] 2 #[.string ⟨#[66]⟩, .string ⟨#[67]⟩] rfl rfl (by decide) (by decide +kernel) _).mono ?_
  rintro e w3 ⟨⟨a2, Ha2, rfl⟩, hg⟩
  have hb := hb.trans' hg
  clear hg
  go_wp2_with (fail)
  refine (Unify_any a1 a2 _).mono ?_
  rintro e w4 ⟨⟨q1, k1, l, i1, HE1, HL1, rfl⟩, hg⟩
  have hb := hb.trans' hg
  clear hg
  obtain ⟨h1, rfl⟩ := Prod.mk.inj (HE1.out.trans (show uniR a1 a2 = (lQ, true) by rw [Ha1.out, Ha2.out]; exact names_u))
  have HLQ := Lib.hid h1
  clear h1
  go_wp2_with (fail)
  refine (kQ pr6 [nX, nX] 2 #[.string ⟨#[88]⟩, .string ⟨#[88]⟩] rfl rfl (by decide) (by decide +kernel) _).mono ?_
  rintro e w5 ⟨⟨a3, Ha3, rfl⟩, hg⟩
  have hb := hb.trans' hg
  have HL1 := Lib.hid (HL1.out.bel hg)
  clear hg
  go_wp2_with (fail)
  refine (kQ pr6 [na, nb] 2 #[.string ⟨#[97]⟩, .string ⟨#[98]⟩] rfl rfl (by decide) (by decide +kernel) _).mono ?_
  rintro e w6 ⟨⟨a4, Ha4, rfl⟩, hg⟩
  have hb := hb.trans' hg
  have HL1 := Lib.hid (HL1.out.bel hg)
  clear hg
  go_wp2_with (fail)
  refine (Unify_any a3 a4 _).mono ?_
  rintro e w7 ⟨⟨q2, k2, l2, i2, HE2, HL2, rfl⟩, hg⟩
  have hb := hb.trans' hg
  have HL1 := Lib.hid (HL1.out.bel hg)
  clear hg
  obtain ⟨h1, rfl⟩ := Prod.mk.inj (HE2.out.trans (show uniR a3 a4 = ([], false) by rw [Ha3.out, Ha4.out]; exact names_no))
  clear h1 HL2
  go_wp2_with (fail)
  refine (kQ pr6 [nX] 1 #[.string ⟨#[88]⟩] rfl rfl (by decide) (by decide +kernel) _).mono ?_
  rintro e w8 ⟨⟨a5, Ha5, rfl⟩, hg⟩
  have hb := hb.trans' hg
  have HL1 := Lib.hid (HL1.out.bel hg)
  clear hg
  go_wp2_with (fail)
  refine (kQ prQ [nX] 1 #[.string ⟨#[88]⟩] rfl rfl (by decide) (by decide +kernel) _).mono ?_
  rintro e w9 ⟨⟨a6, Ha6, rfl⟩, hg⟩
  have hb := hb.trans' hg
  have HL1 := Lib.hid (HL1.out.bel hg)
  clear hg
  go_wp2_with (fail)
  refine (Unify_any a5 a6 _).mono ?_
  rintro e w10 ⟨⟨q3, k3, l3, i3, HE3, HL3, rfl⟩, hg⟩
  have hb := hb.trans' hg
  have HL1 := Lib.hid (HL1.out.bel hg)
  clear hg
  obtain ⟨h1, rfl⟩ := Prod.mk.inj (HE3.out.trans (show uniR a5 a6 = ([], false) by rw [Ha5.out, Ha6.out]; exact names_q))
  clear h1 HL3
  go_wp2_with (fail)
  refine (kQ pr6 [nX, nb] 2 #[.string ⟨#[88]⟩, .string ⟨#[98]⟩] rfl rfl (by decide) (by decide +kernel) _).mono ?_
  rintro e w11 ⟨⟨a7, Ha7, rfl⟩, hg⟩
  have hb := hb.trans' hg
  have HL1 := Lib.hid (HL1.out.bel hg)
  clear hg
  go_wp2_with (fail)
  refine (kQ pr6 [na, nY] 2 #[.string ⟨#[97]⟩, .string ⟨#[89]⟩] rfl rfl (by decide) (by decide +kernel) _).mono ?_
  rintro e w12 ⟨⟨a8, Ha8, rfl⟩, hg⟩
  have hb := hb.trans' hg
  have HL1 := Lib.hid (HL1.out.bel hg)
  clear hg
  go_wp2_with (fail)
  refine (Meet_any a7 a8 _).mono ?_
  rintro e w13 ⟨⟨m, i4, HE4, rfl⟩, hg⟩
  have hb := hb.trans' hg
  have HL1 := Lib.hid (HL1.out.bel hg)
  clear hg
  obtain ⟨h1, rfl⟩ := Prod.mk.inj (HE4.out.trans (show meetR a7 a8 = (atQ pr6 [na, nb], true) by rw [Ha7.out, Ha8.out]; exact names_m))
  have HMQ := Lib.hid h1
  clear h1
  have HAM : RowKit.Hid (AtomAt (w13.alloc (.cells #[.string m.says, .string m.pred, .int .i64 m.n, .bool m.t0.v, .string m.t0.name, .bool m.t1.v, .string m.t1.name, .bool m.t2.v, .string m.t2.name, .bool m.t3.v, .string m.t3.name] 30)) w13.heap.size m) := Lib.hid (AtomAt.new w13 m)
  have hg := bel_alloc w13 (.cells #[.string m.says, .string m.pred, .int .i64 m.n, .bool m.t0.v, .string m.t0.name, .bool m.t1.v, .string m.t1.name, .bool m.t2.v, .string m.t2.name, .bool m.t3.v, .string m.t3.name] 30)
  have hb := hb.trans' hg
  have HL1 := Lib.hid (HL1.out.bel hg)
  clear hg
  go_wp2_with (fail)
  refine (kQg pr6 [nX, nb, nY] 3 #[.string ⟨#[88]⟩, .string ⟨#[98]⟩, .string ⟨#[89]⟩] rfl rfl (by decide) (by decide +kernel) _ _ (by simp)).mono ?_
  rintro e w14 ⟨⟨a9, Ha9, rfl⟩, hg⟩
  have hb := hb.trans' hg
  have HL1 := Lib.hid (HL1.out.bel hg)
  have HAM := Lib.hid (HAM.out.bel hg)
  clear hg
  have HRn := Lib.hid (rename12 a9 Ha9.out)
  go_wp2_with (fail)
  refine (HRn.out _).mono ?_
  rintro e w15 ⟨⟨r, HR, rfl⟩, hg⟩
  have hb := hb.trans' hg
  have HL1 := Lib.hid (HL1.out.bel hg)
  have HAM := Lib.hid (HAM.out.bel hg)
  clear hg
  have HRQ : RowKit.Hid (r = atQ pr6 [nX12, nb, nY12]) := Lib.hid (by rw [HR.out, Ha9.out]; exact names_r)
  clear HRn HR
  have HAR : RowKit.Hid (AtomAt (w15.alloc (.cells #[.string r.says, .string r.pred, .int .i64 r.n, .bool r.t0.v, .string r.t0.name, .bool r.t1.v, .string r.t1.name, .bool r.t2.v, .string r.t2.name, .bool r.t3.v, .string r.t3.name] 30)) w15.heap.size r) := Lib.hid (AtomAt.new w15 r)
  have hg := bel_alloc w15 (.cells #[.string r.says, .string r.pred, .int .i64 r.n, .bool r.t0.v, .string r.t0.name, .bool r.t1.v, .string r.t1.name, .bool r.t2.v, .string r.t2.name, .bool r.t3.v, .string r.t3.name] 30)
  have hb := hb.trans' hg
  have HL1 := Lib.hid (HL1.out.bel hg)
  have HAM := Lib.hid (HAM.out.bel hg)
  clear hg
  go_wp2_with (fail)
  refine (marked12 _).mono ?_
  rintro e w16 ⟨rfl, hg⟩
  have hb := hb.trans' hg
  have HL1 := Lib.hid (HL1.out.bel hg)
  have HAM := Lib.hid (HAM.out.bel hg)
  have HAR := Lib.hid (HAR.out.bel hg)
  clear hg
  go_wp2_with (fail)
  refine (Marked_zero _ (itoa_small _ 1 (by omega))).mono ?_
  rintro e w17 ⟨⟨x2, k5, rfl⟩, hg⟩
  have hb := hb.trans' hg
  have HL1 := Lib.hid (HL1.out.bel hg)
  have HAM := Lib.hid (HAM.out.bel hg)
  have HAR := Lib.hid (HAR.out.bel hg)
  clear hg
  go_wp2_with (fail)
  refine (Marked_bare ⟨#[35, 49]⟩ 0 _ (by decide) (by decide +kernel) (by omega)).mono ?_
  rintro e w18 ⟨⟨x3, k6, rfl⟩, hg⟩
  have hb := hb.trans' hg
  have HL1 := Lib.hid (HL1.out.bel hg)
  have HAM := Lib.hid (HAM.out.bel hg)
  have HAR := Lib.hid (HAR.out.bel hg)
  clear hg
  go_wp2_with (fail)
  refine (Marked_none _ ev (cell_bel HV.out hb) HEV.out).mono ?_
  rintro e w19 ⟨⟨x4, k7, rfl⟩, hg⟩
  have hb := hb.trans' hg
  have HL1 := Lib.hid (HL1.out.bel hg)
  have HAM := Lib.hid (HAM.out.bel hg)
  have HAR := Lib.hid (HAR.out.bel hg)
  clear hg
  go_wp2_with (fail)
  refine (marked0 _).mono ?_
  rintro e w20 ⟨rfl, hg⟩
  have hb := hb.trans' hg
  have HL1 := Lib.hid (HL1.out.bel hg)
  have HAM := Lib.hid (HAM.out.bel hg)
  have HAR := Lib.hid (HAR.out.bel hg)
  clear hg
  have HML := Lib.hid (show l.length = 2 by rw [HLQ.out]; rfl)
  have hqe : eqA m m = true := (eqA_iff _ _).2 rfl
  have hqm := eql_atom m m
  rw [hqe] at hqm
  have hqf : eqA r r = true := (eqA_iff _ _).2 rfl
  have hqr := eql_atom r r
  rw [hqf] at hqr
  clear hqe hqf
  go_wp2_with (fail)
  try simp only [List.append]
  have hM := HAM.out.drew; have hR := HAR.out.drew; have hd := bel_drew' hb
  have HL1 := Lib.hid (HL1.out.bel (bel_drew' (Below.refl _ w20)))
  go_region_held3 (fun w' => (w'.cell? ⟨w13.heap.size, 0, none⟩ = some (.string m.says) ∧ w'.cell? ⟨w13.heap.size, 1, none⟩ = some (.string m.pred) ∧ w'.cell? ⟨w13.heap.size, 2, none⟩ = some (.int .i64 m.n) ∧ w'.cell? ⟨w13.heap.size, 3, none⟩ = some (.bool m.t0.v) ∧ w'.cell? ⟨w13.heap.size, 4, none⟩ = some (.string m.t0.name) ∧ w'.cell? ⟨w13.heap.size, 5, none⟩ = some (.bool m.t1.v) ∧ w'.cell? ⟨w13.heap.size, 6, none⟩ = some (.string m.t1.name) ∧ w'.cell? ⟨w13.heap.size, 7, none⟩ = some (.bool m.t2.v) ∧ w'.cell? ⟨w13.heap.size, 8, none⟩ = some (.string m.t2.name) ∧ w'.cell? ⟨w13.heap.size, 9, none⟩ = some (.bool m.t3.v) ∧ w'.cell? ⟨w13.heap.size, 10, none⟩ = some (.string m.t3.name)) ∧ (w'.cell? ⟨w15.heap.size, 0, none⟩ = some (.string r.says) ∧ w'.cell? ⟨w15.heap.size, 1, none⟩ = some (.string r.pred) ∧ w'.cell? ⟨w15.heap.size, 2, none⟩ = some (.int .i64 r.n) ∧ w'.cell? ⟨w15.heap.size, 3, none⟩ = some (.bool r.t0.v) ∧ w'.cell? ⟨w15.heap.size, 4, none⟩ = some (.string r.t0.name) ∧ w'.cell? ⟨w15.heap.size, 5, none⟩ = some (.bool r.t1.v) ∧ w'.cell? ⟨w15.heap.size, 6, none⟩ = some (.string r.t1.name) ∧ w'.cell? ⟨w15.heap.size, 7, none⟩ = some (.bool r.t2.v) ∧ w'.cell? ⟨w15.heap.size, 8, none⟩ = some (.string r.t2.name) ∧ w'.cell? ⟨w15.heap.size, 9, none⟩ = some (.bool r.t3.v) ∧ w'.cell? ⟨w15.heap.size, 10, none⟩ = some (.string r.t3.name))) (first | with_reducible exact ⟨hM.cells, hR.cells⟩ | with_reducible exact ⟨(hM.bel (bel_alloc _ _)).cells, (hR.bel (bel_alloc _ _)).cells⟩ | exact ⟨hM.cells, hR.cells⟩ | exact ⟨(hM.bel (bel_alloc _ _)).cells, (hR.bel (bel_alloc _ _)).cells⟩ | go_keep | trivial)
    (first | (go_at_call 13; refine (v_any _ _).mono ?_; rintro e w50 ⟨rfl, hg⟩; have hM := hM.bel hg; have hR := hR.bel hg; have hd := hd.trans' hg; have HL1 := Lib.hid (HL1.out.bel hg); clear hg) | (go_at_call 12; refine (sameB2_any q1 l l.length k1 rfl _ l 2 2 rfl HML.out _ (HL1.out.bel (bel_alloc _ _)) (by rw [HLQ.out]; exact SliceAt.lit EB _ 39 lQ _ rfl) (by rw [HML.out]; decide)).mono ?_; rintro e w51 ⟨rfl, hg⟩; have hg := (bel_alloc _ (.cells #[.string ⟨#[66]⟩, .bool true, .string ⟨#[65]⟩, .string ⟨#[67]⟩, .bool true, .string ⟨#[65]⟩] 39)).trans' hg; have hM := hM.bel hg; have hR := hR.bel hg; have hd := hd.trans' hg; clear hg HL1) | (go_at_call 8; have hgate := HMQ; refine (kQ pr6 [na, nb] 2 #[.string ⟨#[97]⟩, .string ⟨#[98]⟩] rfl rfl (by decide) (by decide +kernel) _).mono ?_; rintro e w52 ⟨⟨x, Hx, rfl⟩, hg⟩; obtain rfl : m = x := HMQ.out.trans Hx.out.symm; have hM := hM.bel hg; have hR := hR.bel hg; have hd := hd.trans' hg; clear hg HMQ hgate) | (go_at_call 8; refine (kQ pr6 [nX12, nb, nY12] 3 #[.string ⟨#[88, 35, 49, 50]⟩, .string ⟨#[98]⟩, .string ⟨#[89, 35, 49, 50]⟩] rfl rfl (by decide) (by decide +kernel) _).mono ?_; rintro e w53 ⟨⟨y, Hy, rfl⟩, hg⟩; obtain rfl : r = y := HRQ.out.trans Hy.out.symm; have hM := hM.bel hg; have hR := hR.bel hg; have hd := hd.trans' hg; clear hg HRQ) | (go_at_call 10; refine (RenameNo_any r _ (-1) (by omega)).mono ?_; rintro e w54 ⟨⟨z, Hz, rfl⟩, hg⟩; obtain rfl : r = z := Hz.out.symm; have hM := hM.bel hg; have hR := hR.bel hg; have hd := hd.trans' hg; clear hg))
  all_goals go_wp2
  all_goals go_ret
  all_goals exact ⟨rfl, hd⟩
end Go.Proofs.YtkcnbdlhggoojaaDoor
