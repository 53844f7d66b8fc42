/-
  The walk of the law TermApart. Conditions: what came in lies as its parameters' types say; the library's variable holds some int.
-/
import Derived.Test.YtobelhfhciafcaaDoorTmQ
import Derived.Deep.RegionHeld
namespace Go.Proofs.YtobelhfhciafcaaDoor
open Go.RowKit
theorem ListAt.bel2 {w w' : World} {A : Option Addr} {n : Nat} {xs : List Value} (h : ListAt w A n xs) (hg : Bel w w') : ListAt w' A n xs := by
  obtain ⟨h1, h2⟩ := h
  refine ⟨h1, ?_⟩
  rcases h2 with h2 | ⟨b, o, rfl, hb, hc⟩
  · exact .inl h2
  · exact .inr ⟨b, o, rfl, Nat.lt_of_lt_of_le hb hg.size, fun j u hu => cell_later hg (hc j u hu)⟩
set_option maxRecDepth 20000 in
set_option maxHeartbeats 8000000 in
theorem lawTermApart (a b : AtomD) (w : World) (ha : AtomOk a) (hb0 : AtomOk b) (hm : MaxAt w) :
    Calls Tryd.prog 5 #[.agg #[.string a.says, .string a.pred, .int .i64 a.n, .bool a.t0.v, .string a.t0.name, .bool a.t1.v, .string a.t1.name, .bool a.t2.v, .string a.t2.name, .bool a.t3.v, .string a.t3.name], .agg #[.string b.says, .string b.pred, .int .i64 b.n, .bool b.t0.v, .string b.t0.name, .bool b.t1.v, .string b.t1.name, .bool b.t2.v, .string b.t2.name, .bool b.t3.v, .string b.t3.name]] w fun e w' => e = .returned (.bool true) ∧ Bel w w' := by
  have hb := (bel_alloc w (.cells #[.string a.says, .string a.pred, .int .i64 a.n, .bool a.t0.v, .string a.t0.name, .bool a.t1.v, .string a.t1.name, .bool a.t2.v, .string a.t2.name, .bool a.t3.v, .string a.t3.name] 27)).trans' (bel_alloc (w.alloc (.cells #[.string a.says, .string a.pred, .int .i64 a.n, .bool a.t0.v, .string a.t0.name, .bool a.t1.v, .string a.t1.name, .bool a.t2.v, .string a.t2.name, .bool a.t3.v, .string a.t3.name] 27)) (.cells #[.string b.says, .string b.pred, .int .i64 b.n, .bool b.t0.v, .string b.t0.name, .bool b.t1.v, .string b.t1.name, .bool b.t2.v, .string b.t2.name, .bool b.t3.v, .string b.t3.name] 27))
  have hA := (AtomAt.new w a).bel (bel_alloc (w.alloc (.cells #[.string a.says, .string a.pred, .int .i64 a.n, .bool a.t0.v, .string a.t0.name, .bool a.t1.v, .string a.t1.name, .bool a.t2.v, .string a.t2.name, .bool a.t3.v, .string a.t3.name] 27)) (.cells #[.string b.says, .string b.pred, .int .i64 b.n, .bool b.t0.v, .string b.t0.name, .bool b.t1.v, .string b.t1.name, .bool b.t2.v, .string b.t2.name, .bool b.t3.v, .string b.t3.name] 27))
  have hB := AtomAt.new (w.alloc (.cells #[.string a.says, .string a.pred, .int .i64 a.n, .bool a.t0.v, .string a.t0.name, .bool a.t1.v, .string a.t1.name, .bool a.t2.v, .string a.t2.name, .bool a.t3.v, .string a.t3.name] 27)) b
  rw [show (w.alloc (.cells #[.string a.says, .string a.pred, .int .i64 a.n, .bool a.t0.v, .string a.t0.name, .bool a.t1.v, .string a.t1.name, .bool a.t2.v, .string a.t2.name, .bool a.t3.v, .string a.t3.name] 27)).heap.size = w.heap.size + 1 by simp] at hB
  rcases Bool.eq_false_or_eq_true (lightA a) with g1 | g1
  case inr =>
    go_enter Tryd.func5, Tryd.ntmps5
    go_wp2_with (fail)
    refine (tlives_any _ (hm.bel hb)).mono ?_
    rintro e w1 ⟨rfl, hg⟩
    have hA := hA.bel hg
    have hB := hB.bel hg
    obtain ⟨c0, c1, c2, c3, c4, c5, c6, c7, c8, c9, c10⟩ := hA.cells
    obtain ⟨f0, f1, f2, f3, f4, f5, f6, f7, f8, f9, f10⟩ := hB.cells
    have hb := hb.trans' hg
    clear hg
    go_wp2_with (fail)
    refine (light_any a _ ha).mono ?_
    rintro e w1 ⟨rfl, hg⟩
    have hA := hA.bel hg
    have hB := hB.bel hg
    obtain ⟨c0, c1, c2, c3, c4, c5, c6, c7, c8, c9, c10⟩ := hA.cells
    obtain ⟨f0, f1, f2, f3, f4, f5, f6, f7, f8, f9, f10⟩ := hB.cells
    have hb := hb.trans' hg
    clear hg
    go_wp2
    all_goals go_ret
    all_goals exact ⟨rfl, hb⟩
  rcases Bool.eq_false_or_eq_true (lightA b) with g2 | g2
  case inr =>
    go_enter Tryd.func5, Tryd.ntmps5
    go_wp2_with (fail)
    refine (tlives_any _ (hm.bel hb)).mono ?_
    rintro e w1 ⟨rfl, hg⟩
    have hA := hA.bel hg
    have hB := hB.bel hg
    obtain ⟨c0, c1, c2, c3, c4, c5, c6, c7, c8, c9, c10⟩ := hA.cells
    obtain ⟨f0, f1, f2, f3, f4, f5, f6, f7, f8, f9, f10⟩ := hB.cells
    have hb := hb.trans' hg
    clear hg
    go_wp2_with (fail)
    refine (light_any a _ ha).mono ?_
    rintro e w1 ⟨rfl, hg⟩
    have hA := hA.bel hg
    have hB := hB.bel hg
    obtain ⟨c0, c1, c2, c3, c4, c5, c6, c7, c8, c9, c10⟩ := hA.cells
    obtain ⟨f0, f1, f2, f3, f4, f5, f6, f7, f8, f9, f10⟩ := hB.cells
    have hb := hb.trans' hg
    clear hg
    go_wp2_with (fail)
    refine (light_any b _ hb0).mono ?_
    rintro e w1 ⟨rfl, hg⟩
    have hA := hA.bel hg
    have hB := hB.bel hg
    obtain ⟨c0, c1, c2, c3, c4, c5, c6, c7, c8, c9, c10⟩ := hA.cells
    obtain ⟨f0, f1, f2, f3, f4, f5, f6, f7, f8, f9, f10⟩ := hB.cells
    have hb := hb.trans' hg
    clear hg
    go_wp2
    all_goals go_ret
    all_goals exact ⟨rfl, hb⟩
  rcases Bool.eq_false_or_eq_true (checkD a == 0) with g3 | g3
  case inr =>
    have g3' : (checkD a != 0) = true := by rw [bne, g3]; rfl
    go_enter Tryd.func5, Tryd.ntmps5
    go_wp2_with (fail)
    refine (tlives_any _ (hm.bel hb)).mono ?_
    rintro e w1 ⟨rfl, hg⟩
    have hA := hA.bel hg
    have hB := hB.bel hg
    obtain ⟨c0, c1, c2, c3, c4, c5, c6, c7, c8, c9, c10⟩ := hA.cells
    obtain ⟨f0, f1, f2, f3, f4, f5, f6, f7, f8, f9, f10⟩ := hB.cells
    have hb := hb.trans' hg
    clear hg
    go_wp2_with (fail)
    refine (light_any a _ ha).mono ?_
    rintro e w1 ⟨rfl, hg⟩
    have hA := hA.bel hg
    have hB := hB.bel hg
    obtain ⟨c0, c1, c2, c3, c4, c5, c6, c7, c8, c9, c10⟩ := hA.cells
    obtain ⟨f0, f1, f2, f3, f4, f5, f6, f7, f8, f9, f10⟩ := hB.cells
    have hb := hb.trans' hg
    clear hg
    go_wp2_with (fail)
    refine (light_any b _ hb0).mono ?_
    rintro e w1 ⟨rfl, hg⟩
    have hA := hA.bel hg
    have hB := hB.bel hg
    obtain ⟨c0, c1, c2, c3, c4, c5, c6, c7, c8, c9, c10⟩ := hA.cells
    obtain ⟨f0, f1, f2, f3, f4, f5, f6, f7, f8, f9, f10⟩ := hB.cells
    have hb := hb.trans' hg
    clear hg
    go_wp2_with (fail)
    refine (check_any a _ ha (hm.bel hb)).mono ?_
    rintro e w1 ⟨rfl, hg⟩
    have hA := hA.bel hg
    have hB := hB.bel hg
    obtain ⟨c0, c1, c2, c3, c4, c5, c6, c7, c8, c9, c10⟩ := hA.cells
    obtain ⟨f0, f1, f2, f3, f4, f5, f6, f7, f8, f9, f10⟩ := hB.cells
    have hb := hb.trans' hg
    clear hg
    go_wp2
    all_goals go_ret
    all_goals exact ⟨rfl, hb⟩
  have g3' : (checkD a != 0) = false := by rw [bne, g3]; rfl
  rcases Bool.eq_false_or_eq_true (checkD b == 0) with g4 | g4
  case inr =>
    have g4' : (checkD b != 0) = true := by rw [bne, g4]; rfl
    go_enter Tryd.func5, Tryd.ntmps5
    go_wp2_with (fail)
    refine (tlives_any _ (hm.bel hb)).mono ?_
    rintro e w1 ⟨rfl, hg⟩
    have hA := hA.bel hg
    have hB := hB.bel hg
    obtain ⟨c0, c1, c2, c3, c4, c5, c6, c7, c8, c9, c10⟩ := hA.cells
    obtain ⟨f0, f1, f2, f3, f4, f5, f6, f7, f8, f9, f10⟩ := hB.cells
    have hb := hb.trans' hg
    clear hg
    go_wp2_with (fail)
    refine (light_any a _ ha).mono ?_
    rintro e w1 ⟨rfl, hg⟩
    have hA := hA.bel hg
    have hB := hB.bel hg
    obtain ⟨c0, c1, c2, c3, c4, c5, c6, c7, c8, c9, c10⟩ := hA.cells
    obtain ⟨f0, f1, f2, f3, f4, f5, f6, f7, f8, f9, f10⟩ := hB.cells
    have hb := hb.trans' hg
    clear hg
    go_wp2_with (fail)
    refine (light_any b _ hb0).mono ?_
    rintro e w1 ⟨rfl, hg⟩
    have hA := hA.bel hg
    have hB := hB.bel hg
    obtain ⟨c0, c1, c2, c3, c4, c5, c6, c7, c8, c9, c10⟩ := hA.cells
    obtain ⟨f0, f1, f2, f3, f4, f5, f6, f7, f8, f9, f10⟩ := hB.cells
    have hb := hb.trans' hg
    clear hg
    go_wp2_with (fail)
    refine (check_any a _ ha (hm.bel hb)).mono ?_
    rintro e w1 ⟨rfl, hg⟩
    have hA := hA.bel hg
    have hB := hB.bel hg
    obtain ⟨c0, c1, c2, c3, c4, c5, c6, c7, c8, c9, c10⟩ := hA.cells
    obtain ⟨f0, f1, f2, f3, f4, f5, f6, f7, f8, f9, f10⟩ := hB.cells
    have hb := hb.trans' hg
    clear hg
    go_wp2_with (fail)
    refine (check_any b _ hb0 (hm.bel hb)).mono ?_
    rintro e w1 ⟨rfl, hg⟩
    have hA := hA.bel hg
    have hB := hB.bel hg
    obtain ⟨c0, c1, c2, c3, c4, c5, c6, c7, c8, c9, c10⟩ := hA.cells
    obtain ⟨f0, f1, f2, f3, f4, f5, f6, f7, f8, f9, f10⟩ := hB.cells
    have hb := hb.trans' hg
    clear hg
    go_wp2
    all_goals go_ret
    all_goals exact ⟨rfl, hb⟩
  have g4' : (checkD b != 0) = false := by rw [bne, g4]; rfl
  have hca : checkD a = 0 := by simpa using g3
  have hcb : checkD b = 0 := by simpa using g4
  have HTX := Lib.hid (text_eq hca hcb)
  have HGN := Lib.hid (ground_names a)
  have hva := (valid_of hca).cnt
  have SA := AtomOk.sm g1
  have SB := AtomOk.sm g2
  obtain ⟨L, hL⟩ : ∃ L, L = (argsD a).take (cntI a.n) := ⟨_, rfl⟩
  have hLL : L.length = cntI a.n := by rw [hL]; exact first_len a
  obtain ⟨k0, hk0⟩ : ∃ k0, k0 = cntI a.n := ⟨_, rfl⟩
  have hk4 := cntI_le a.n
  rw [← hk0] at hva hLL hk4
  rw [← hL] at HGN
  have HL := Lib.hid hL
  have HLL := Lib.hid hLL
  have HN2 := Lib.hid (names_two L)
  have HK0 := Lib.hid hk0
  clear hL hLL hk0 hca hcb
  go_enter Tryd.func5, Tryd.ntmps5
  go_wp2_with (fail)
  refine (tlives_any _ (hm.bel hb)).mono ?_
  rintro e w1 ⟨rfl, hg⟩
  have hA := hA.bel hg
  have hB := hB.bel hg
  obtain ⟨c0, c1, c2, c3, c4, c5, c6, c7, c8, c9, c10⟩ := hA.cells
  obtain ⟨f0, f1, f2, f3, f4, f5, f6, f7, f8, f9, f10⟩ := hB.cells
  have hb := hb.trans' hg
  clear hg
  go_wp2_with (fail)
  refine (light_any a _ ha).mono ?_
  rintro e w1 ⟨rfl, hg⟩
  have hA := hA.bel hg
  have hB := hB.bel hg
  obtain ⟨c0, c1, c2, c3, c4, c5, c6, c7, c8, c9, c10⟩ := hA.cells
  obtain ⟨f0, f1, f2, f3, f4, f5, f6, f7, f8, f9, f10⟩ := hB.cells
  have hb := hb.trans' hg
  clear hg
  go_wp2_with (fail)
  refine (light_any b _ hb0).mono ?_
  rintro e w1 ⟨rfl, hg⟩
  have hA := hA.bel hg
  have hB := hB.bel hg
  obtain ⟨c0, c1, c2, c3, c4, c5, c6, c7, c8, c9, c10⟩ := hA.cells
  obtain ⟨f0, f1, f2, f3, f4, f5, f6, f7, f8, f9, f10⟩ := hB.cells
  have hb := hb.trans' hg
  clear hg
  go_wp2_with (fail)
  refine (check_any a _ ha (hm.bel hb)).mono ?_
  rintro e w1 ⟨rfl, hg⟩
  have hA := hA.bel hg
  have hB := hB.bel hg
  obtain ⟨c0, c1, c2, c3, c4, c5, c6, c7, c8, c9, c10⟩ := hA.cells
  obtain ⟨f0, f1, f2, f3, f4, f5, f6, f7, f8, f9, f10⟩ := hB.cells
  have hb := hb.trans' hg
  clear hg
  go_wp2_with (fail)
  refine (check_any b _ hb0 (hm.bel hb)).mono ?_
  rintro e w1 ⟨rfl, hg⟩
  have hA := hA.bel hg
  have hB := hB.bel hg
  obtain ⟨c0, c1, c2, c3, c4, c5, c6, c7, c8, c9, c10⟩ := hA.cells
  obtain ⟨f0, f1, f2, f3, f4, f5, f6, f7, f8, f9, f10⟩ := hB.cells
  have hb := hb.trans' hg
  clear hg
  go_wp2
  have hA := hA.drew
  have hB := hB.drew
  have hb := bel_drew' hb
  go_region_held (fun w' => (w'.cell? ⟨w.heap.size, 0, none⟩ = some (.string a.says) ∧ w'.cell? ⟨w.heap.size, 1, none⟩ = some (.string a.pred) ∧ w'.cell? ⟨w.heap.size, 2, none⟩ = some (.int .i64 a.n) ∧ w'.cell? ⟨w.heap.size, 3, none⟩ = some (.bool a.t0.v) ∧ w'.cell? ⟨w.heap.size, 4, none⟩ = some (.string a.t0.name) ∧ w'.cell? ⟨w.heap.size, 5, none⟩ = some (.bool a.t1.v) ∧ w'.cell? ⟨w.heap.size, 6, none⟩ = some (.string a.t1.name) ∧ w'.cell? ⟨w.heap.size, 7, none⟩ = some (.bool a.t2.v) ∧ w'.cell? ⟨w.heap.size, 8, none⟩ = some (.string a.t2.name) ∧ w'.cell? ⟨w.heap.size, 9, none⟩ = some (.bool a.t3.v) ∧ w'.cell? ⟨w.heap.size, 10, none⟩ = some (.string a.t3.name))) (exact hA.cells) (first | (go_at_call 16; refine (vars_any a _ L HL.out).mono ?_; rintro e w4 ⟨⟨A3, k3, hV, rfl⟩, hg⟩; have hA := hA.bel hg; have hB := hB.bel hg; have hb := hb.trans' hg; clear hg) | (go_at_call 17; refine (consts_any a _ L HL.out).mono ?_; rintro e w5 ⟨⟨A4, k4, hC, rfl⟩, hg⟩; have hV := Lib.hid (hV.out.bel2 hg); have hA := hA.bel hg; have hB := hB.bel hg; have hb := hb.trans' hg; clear hg))
  go_wp2
  go_loopw [7, 8] (fun c7 i wr => ∃ k : Nat, k ≤ k0 ∧ i = .int .i64 k ∧ c7 = .int .i64 k ∧ RowKit.Hid (Bel w5 wr)) (fun _ i _ => k0 - (intOf i).toNat)
  case atStart => exact ⟨0, Nat.zero_le _, rfl, rfl, Lib.hid (Below.refl _ _)⟩
  case round =>
    obtain ⟨k, hk, rfl, rfl, H⟩ := hrel
    have hAw := hA.bel H.out
    have hBw := hB.bel H.out
    have hbw := hb.trans' H.out
    have hVw := hV.out.bel2 H.out
    have hCw := hC.out.bel2 H.out
    clear c0 c1 c2 c3 c4 c5 c6 c7 c8 c9 c10 f0 f1 f2 f3 f4 f5 f6 f7 f8 f9 f10
    obtain ⟨c0, c1, c2, _⟩ := hAw.cells
    by_cases hlt : k < k0
    · obtain ⟨b', o', e, _, d1, d2⟩ := hAw.terms k (by show k < 4; omega)
      injection e with e
      injection e with e1 e2
      subst e1 e2
      have htL : (argsD a)[k]'(by show k < 4; omega) ∈ L := by
        rw [HL.out, ← HK0.out]
        rw [List.mem_iff_getElem]
        exact ⟨k, by rw [List.length_take]; show k < min k0 4; omega, by simp⟩
      generalize (argsD a)[k]'(by show k < 4; omega) = t at d1 d2 htL
      obtain ⟨tv, ts⟩ := t
      simp only at d1 d2
      have hq0 : (0 : Int) ≤ k := by omega
      have hq1 : (k : Int) < a.n := by omega
      have hq4 : (k : Int) < 4 := by omega
      cases tv
      · have HM : RowKit.Hid (hitN (namesD false L) ts (namesD false L).length = 1) := Lib.hid (hit_all L ⟨false, ts⟩ htL)
        have hml := names_len false L
        rw [HLL.out] at hml
        go_wp2
        go_loopw [7, 10] (fun c7 kk wr2 => ∃ j q : Nat, j ≤ (namesD false L).length ∧ kk = .int .i64 j ∧ c7 = .int .i64 q ∧ RowKit.Hid (Bel wr wr2) ∧ q ≤ k + j ∧ RowKit.Hid (q = k + hitN (namesD false L) ts j)) (fun _ kk _ => (namesD false L).length - (intOf kk).toNat)
        case atStart => exact ⟨0, k, Nat.zero_le _, rfl, rfl, Lib.hid (Below.refl _ _), by omega, Lib.hid (by simp [hitN])⟩
        case round =>
          obtain ⟨j, q, hj, rfl, rfl, HJ, hqj, HQ⟩ := hrel
          have hAj := hAw.bel HJ.out
          have d1 := cell_later HJ.out d1
          have d2 := cell_later HJ.out d2
          by_cases hjl : j < (namesD false L).length
          · obtain ⟨_, hLc⟩ := (hCw.bel2 HJ.out)
            rcases hLc with h0 | ⟨bb, oo, rfl, _, hLc⟩
            · omega
            have hx1 := hLc j (.string (namesD false L)[j]) (by simp [hjl])
            have HS := Lib.hid (hit_succ ts (List.getElem?_eq_getElem hjl))
            clear hLc
            generalize (namesD false L)[j] = x at hx1 HS
            have hj0 : (0 : Int) ≤ j := by omega
            have hj1 : (j : Int) < (namesD false L).length := by omega
            rcases Bool.eq_false_or_eq_true (x.toList == ts.toList) with hx | hx
            · have HS2 : RowKit.Hid (hitN (namesD false L) ts (j + 1) = hitN (namesD false L) ts j + 1) := Lib.hid (by rw [HS.out, if_pos hx])
              go_wp2
              go_quiet (fail)
              go_wp2
              go_roundw
              case rel => exact ⟨j + 1, q + 1, by omega, by go_num, by go_num, Lib.hid (HJ.out.trans' (by first | exact Below.refl _ _ | exact bel_drewN _ _)), by omega, Lib.hid (by rw [HS2.out, HQ.out]; omega)⟩
              case measure => simp [intOf]; omega
            · have HS2 : RowKit.Hid (hitN (namesD false L) ts (j + 1) = hitN (namesD false L) ts j) := Lib.hid (by rw [HS.out, if_neg (by simp [hx])]; rfl)
              go_wp2
              go_quiet (fail)
              go_wp2
              go_roundw
              case rel => exact ⟨j + 1, q, by omega, by go_num, by go_num, Lib.hid (HJ.out.trans' (by first | exact Below.refl _ _ | exact bel_drewN _ _)), by omega, Lib.hid (by rw [HS2.out, HQ.out])⟩
              case measure => simp [intOf]; omega
          · obtain rfl : j = (namesD false L).length := by omega
            have hq1 : q = k + 1 := by have := HQ.out; rw [HM.out] at this; exact this
            clear HQ
            subst hq1
            go_wp2
            go_roundw
            case rel => exact ⟨k + 1, by omega, by go_num, by go_num, Lib.hid (H.out.trans' HJ.out)⟩
            case measure => simp [intOf]; omega
      · have HM : RowKit.Hid (hitN (namesD true L) ts (namesD true L).length = 1) := Lib.hid (hit_all L ⟨true, ts⟩ htL)
        have hml := names_len true L
        rw [HLL.out] at hml
        go_wp2
        go_loopw [7, 10] (fun c7 kk wr2 => ∃ j q : Nat, j ≤ (namesD true L).length ∧ kk = .int .i64 j ∧ c7 = .int .i64 q ∧ RowKit.Hid (Bel wr wr2) ∧ q ≤ k + j ∧ RowKit.Hid (q = k + hitN (namesD true L) ts j)) (fun _ kk _ => (namesD true L).length - (intOf kk).toNat)
        case atStart => exact ⟨0, k, Nat.zero_le _, rfl, rfl, Lib.hid (Below.refl _ _), by omega, Lib.hid (by simp [hitN])⟩
        case round =>
          obtain ⟨j, q, hj, rfl, rfl, HJ, hqj, HQ⟩ := hrel
          have hAj := hAw.bel HJ.out
          have d1 := cell_later HJ.out d1
          have d2 := cell_later HJ.out d2
          by_cases hjl : j < (namesD true L).length
          · obtain ⟨_, hLc⟩ := (hVw.bel2 HJ.out)
            rcases hLc with h0 | ⟨bb, oo, rfl, _, hLc⟩
            · omega
            have hx1 := hLc j (.string (namesD true L)[j]) (by simp [hjl])
            have HS := Lib.hid (hit_succ ts (List.getElem?_eq_getElem hjl))
            clear hLc
            generalize (namesD true L)[j] = x at hx1 HS
            have hj0 : (0 : Int) ≤ j := by omega
            have hj1 : (j : Int) < (namesD true L).length := by omega
            rcases Bool.eq_false_or_eq_true (x.toList == ts.toList) with hx | hx
            · have HS2 : RowKit.Hid (hitN (namesD true L) ts (j + 1) = hitN (namesD true L) ts j + 1) := Lib.hid (by rw [HS.out, if_pos hx])
              go_wp2
              go_quiet (fail)
              go_wp2
              go_roundw
              case rel => exact ⟨j + 1, q + 1, by omega, by go_num, by go_num, Lib.hid (HJ.out.trans' (by first | exact Below.refl _ _ | exact bel_drewN _ _)), by omega, Lib.hid (by rw [HS2.out, HQ.out]; omega)⟩
              case measure => simp [intOf]; omega
            · have HS2 : RowKit.Hid (hitN (namesD true L) ts (j + 1) = hitN (namesD true L) ts j) := Lib.hid (by rw [HS.out, if_neg (by simp [hx])]; rfl)
              go_wp2
              go_quiet (fail)
              go_wp2
              go_roundw
              case rel => exact ⟨j + 1, q, by omega, by go_num, by go_num, Lib.hid (HJ.out.trans' (by first | exact Below.refl _ _ | exact bel_drewN _ _)), by omega, Lib.hid (by rw [HS2.out, HQ.out])⟩
              case measure => simp [intOf]; omega
          · obtain rfl : j = (namesD true L).length := by omega
            have hq1 : q = k + 1 := by have := HQ.out; rw [HM.out] at this; exact this
            clear HQ
            subst hq1
            go_wp2
            go_roundw
            case rel => exact ⟨k + 1, by omega, by go_num, by go_num, Lib.hid (H.out.trans' HJ.out)⟩
            case measure => simp [intOf]; omega
    · obtain rfl : k = k0 := by omega
      have hA := hAw.drew
      have hB := hBw.drew
      have hb := bel_drew' hbw
      have hnl : ¬ (k : Int) < a.n := by omega
      have hin : ((k : Int) == a.n) = true := by rw [beq_iff_eq]; omega
      have hle : ((namesD true L).length : Int) + ((namesD false L).length : Int) ≤ a.n := by have := HN2.out; have := HLL.out; omega
      obtain ⟨xa, hxa⟩ : ∃ xa, xa = textD a := ⟨_, rfl⟩
      obtain ⟨xb, hxb⟩ : ∃ xb, xb = textD b := ⟨_, rfl⟩
      obtain ⟨gd, hgd⟩ : ∃ gd, gd = groundD a := ⟨_, rfl⟩
      have hxx : (xa.toList == xb.toList) = eqA a b := by rw [hxa, hxb]; exact HTX.out
      have hgg : (gd == (((namesD true L).length : Int) == 0)) = true := by rw [hgd, HGN.out]; simp
      have HLE := Lib.hid hle
      have HWR : RowKit.Hid (IntKind.i64.wrap (((namesD true L).length : Int) + ((namesD false L).length : Int)) = ((namesD true L).length : Int) + ((namesD false L).length : Int)) := Lib.hid (by
        have h1 := HN2.out
        have h2 := HLL.out
        simp [IntKind.wrap, IntKind.signed, IntKind.bits]
        omega)
      have HXA := Lib.hid hxa
      have HXB := Lib.hid hxb
      have HGD := Lib.hid hgd
      have hqab := eql_atom a b
      clear hxa hxb hgd
      go_wp2
      go_region_held (fun w' => (w'.cell? ⟨w.heap.size, 0, none⟩ = some (.string a.says) ∧ w'.cell? ⟨w.heap.size, 1, none⟩ = some (.string a.pred) ∧ w'.cell? ⟨w.heap.size, 2, none⟩ = some (.int .i64 a.n) ∧ w'.cell? ⟨w.heap.size, 3, none⟩ = some (.bool a.t0.v) ∧ w'.cell? ⟨w.heap.size, 4, none⟩ = some (.string a.t0.name) ∧ w'.cell? ⟨w.heap.size, 5, none⟩ = some (.bool a.t1.v) ∧ w'.cell? ⟨w.heap.size, 6, none⟩ = some (.string a.t1.name) ∧ w'.cell? ⟨w.heap.size, 7, none⟩ = some (.bool a.t2.v) ∧ w'.cell? ⟨w.heap.size, 8, none⟩ = some (.string a.t2.name) ∧ w'.cell? ⟨w.heap.size, 9, none⟩ = some (.bool a.t3.v) ∧ w'.cell? ⟨w.heap.size, 10, none⟩ = some (.string a.t3.name)) ∧ (w'.cell? ⟨w.heap.size + 1, 0, none⟩ = some (.string b.says) ∧ w'.cell? ⟨w.heap.size + 1, 1, none⟩ = some (.string b.pred) ∧ w'.cell? ⟨w.heap.size + 1, 2, none⟩ = some (.int .i64 b.n) ∧ w'.cell? ⟨w.heap.size + 1, 3, none⟩ = some (.bool b.t0.v) ∧ w'.cell? ⟨w.heap.size + 1, 4, none⟩ = some (.string b.t0.name) ∧ w'.cell? ⟨w.heap.size + 1, 5, none⟩ = some (.bool b.t1.v) ∧ w'.cell? ⟨w.heap.size + 1, 6, none⟩ = some (.string b.t1.name) ∧ w'.cell? ⟨w.heap.size + 1, 7, none⟩ = some (.bool b.t2.v) ∧ w'.cell? ⟨w.heap.size + 1, 8, none⟩ = some (.string b.t2.name) ∧ w'.cell? ⟨w.heap.size + 1, 9, none⟩ = some (.bool b.t3.v) ∧ w'.cell? ⟨w.heap.size + 1, 10, none⟩ = some (.string b.t3.name))) (exact ⟨hA.cells, hB.cells⟩) (first | (go_at_call 18; refine (text_any a _ SA).mono ?_; rw [← HXA.out]; rintro e w4 ⟨rfl, hg⟩; clear SA; have hA := hA.bel hg; have hB := hB.bel hg; have hb := hb.trans' hg; clear hg) | (go_at_call 18; refine (text_any b _ SB).mono ?_; rw [← HXB.out]; rintro e w4 ⟨rfl, hg⟩; clear SB; have hA := hA.bel hg; have hB := hB.bel hg; have hb := hb.trans' hg; clear hg) | (go_at_call 14; refine (ground_any a _).mono ?_; rw [← HGD.out]; rintro e w4 ⟨rfl, hg⟩; have hA := hA.bel hg; have hB := hB.bel hg; have hb := hb.trans' hg; clear hg))
      all_goals go_wp2
      all_goals go_ret
      all_goals (refine ⟨?_, hb⟩; simp; rw [HWR.out]; exact HLE.out)
end Go.Proofs.YtobelhfhciafcaaDoor
