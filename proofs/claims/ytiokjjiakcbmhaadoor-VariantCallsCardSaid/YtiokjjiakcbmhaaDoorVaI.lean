/-
  The reference's text and list of canonical forms: the walks. Conditions: as each says.
-/
import Derived.Test.YtiokjjiakcbmhaaDoorVaH
import Derived.Test.YtiokjjiakcbmhaaDoorVaG
namespace Go.Proofs.YtiokjjiakcbmhaaDoor
open Go.RowKit

set_option maxRecDepth 20000 in
set_option maxHeartbeats 4000000 in
theorem rSameV_any (a b : AtomD) (w : World) (ha : ∀ t ∈ argsD a, t.name.size ≤ 1000) (hb : ∀ t ∈ argsD b, t.name.size ≤ 1000) :
    Calls Tryd.prog 27 #[.agg #[.string a.says, .string a.pred, .int .i64 a.n, .bool a.t0.v, .string a.t0.name, .bool a.t1.v, .string a.t1.name, .bool a.t2.v, .string a.t2.name, .bool a.t3.v, .string a.t3.name], .agg #[.string b.says, .string b.pred, .int .i64 b.n, .bool b.t0.v, .string b.t0.name, .bool b.t1.v, .string b.t1.name, .bool b.t2.v, .string b.t2.name, .bool b.t3.v, .string b.t3.name]] w fun e w' => e = .returned (.bool (eqA (canonD a) (canonD b))) ∧ Bel w w' := by
  have HSA := Lib.hid ha
  have HSB := Lib.hid hb
  clear ha hb
  have hb1 := bel_alloc w (.cells #[.string a.says, .string a.pred, .int .i64 a.n, .bool a.t0.v, .string a.t0.name, .bool a.t1.v, .string a.t1.name, .bool a.t2.v, .string a.t2.name, .bool a.t3.v, .string a.t3.name] 27)
  have hP := AtomAt.new w a
  have hb2 := bel_alloc (w.alloc (.cells #[.string a.says, .string a.pred, .int .i64 a.n, .bool a.t0.v, .string a.t0.name, .bool a.t1.v, .string a.t1.name, .bool a.t2.v, .string a.t2.name, .bool a.t3.v, .string a.t3.name] 27)) (.cells #[.string b.says, .string b.pred, .int .i64 b.n, .bool b.t0.v, .string b.t0.name, .bool b.t1.v, .string b.t1.name, .bool b.t2.v, .string b.t2.name, .bool b.t3.v, .string b.t3.name] 27)
  have hQ := AtomAt.new (w.alloc (.cells #[.string a.says, .string a.pred, .int .i64 a.n, .bool a.t0.v, .string a.t0.name, .bool a.t1.v, .string a.t1.name, .bool a.t2.v, .string a.t2.name, .bool a.t3.v, .string a.t3.name] 27)) b
  rw [show (w.alloc (.cells #[.string a.says, .string a.pred, .int .i64 a.n, .bool a.t0.v, .string a.t0.name, .bool a.t1.v, .string a.t1.name, .bool a.t2.v, .string a.t2.name, .bool a.t3.v, .string a.t3.name] 27)).heap.size = w.heap.size + 1 by simp] at hQ
  replace hP := (hP.bel hb2).drew
  replace hQ := hQ.drew
  have hd := bel_drew' (hb1.trans' hb2)
  clear hb1 hb2
  have hqe := eql_atom
  go_enter Tryd.func27, Tryd.ntmps27
  go_wp2
  go_region_held3 (fun w' => (w'.cell? ⟨w.heap.size, 0, none⟩ = some (.string a.says) ∧ w'.cell? ⟨w.heap.size, 1, none⟩ = some (.string a.pred) ∧ w'.cell? ⟨w.heap.size, 2, none⟩ = some (.int .i64 a.n) ∧ w'.cell? ⟨w.heap.size, 3, none⟩ = some (.bool a.t0.v) ∧ w'.cell? ⟨w.heap.size, 4, none⟩ = some (.string a.t0.name) ∧ w'.cell? ⟨w.heap.size, 5, none⟩ = some (.bool a.t1.v) ∧ w'.cell? ⟨w.heap.size, 6, none⟩ = some (.string a.t1.name) ∧ w'.cell? ⟨w.heap.size, 7, none⟩ = some (.bool a.t2.v) ∧ w'.cell? ⟨w.heap.size, 8, none⟩ = some (.string a.t2.name) ∧ w'.cell? ⟨w.heap.size, 9, none⟩ = some (.bool a.t3.v) ∧ w'.cell? ⟨w.heap.size, 10, none⟩ = some (.string a.t3.name)) ∧ (w'.cell? ⟨w.heap.size + 1, 0, none⟩ = some (.string b.says) ∧ w'.cell? ⟨w.heap.size + 1, 1, none⟩ = some (.string b.pred) ∧ w'.cell? ⟨w.heap.size + 1, 2, none⟩ = some (.int .i64 b.n) ∧ w'.cell? ⟨w.heap.size + 1, 3, none⟩ = some (.bool b.t0.v) ∧ w'.cell? ⟨w.heap.size + 1, 4, none⟩ = some (.string b.t0.name) ∧ w'.cell? ⟨w.heap.size + 1, 5, none⟩ = some (.bool b.t1.v) ∧ w'.cell? ⟨w.heap.size + 1, 6, none⟩ = some (.string b.t1.name) ∧ w'.cell? ⟨w.heap.size + 1, 7, none⟩ = some (.bool b.t2.v) ∧ w'.cell? ⟨w.heap.size + 1, 8, none⟩ = some (.string b.t2.name) ∧ w'.cell? ⟨w.heap.size + 1, 9, none⟩ = some (.bool b.t3.v) ∧ w'.cell? ⟨w.heap.size + 1, 10, none⟩ = some (.string b.t3.name))) (first | exact ⟨hP.cells, hQ.cells⟩ | go_keep | trivial)
    (first | (go_at_call 25; refine (rCanon_any _ _ (by first | exact HSA.out | exact HSB.out)).mono ?_; rintro e w3 ⟨⟨q, HQ, rfl⟩, hg⟩; obtain rfl := HQ.out.symm; replace hP := hP.bel hg; replace hQ := hQ.bel hg; replace hd := hd.trans' hg; clear hg))
  all_goals go_wp2
  all_goals go_ret
  all_goals exact ⟨rfl, hd⟩
set_option maxRecDepth 20000 in
set_option maxHeartbeats 4000000 in
theorem rKeyV_any (a : AtomD) (w : World) (h : AtomSm a) :
    Calls Tryd.prog 26 #[.agg #[.string a.says, .string a.pred, .int .i64 a.n, .bool a.t0.v, .string a.t0.name, .bool a.t1.v, .string a.t1.name, .bool a.t2.v, .string a.t2.name, .bool a.t3.v, .string a.t3.name]] w fun e w' => e = .returned (.string (textD (canonD a))) ∧ Bel w w' := by
  have HSA := Lib.hid h.args
  have HSM := Lib.hid (canon_sm h)
  clear h
  have hb := bel_alloc w (.cells #[.string a.says, .string a.pred, .int .i64 a.n, .bool a.t0.v, .string a.t0.name, .bool a.t1.v, .string a.t1.name, .bool a.t2.v, .string a.t2.name, .bool a.t3.v, .string a.t3.name] 27)
  have hP := AtomAt.new w a
  obtain ⟨c0, c1, c2, c3, c4, c5, c6, c7, c8, c9, c10⟩ := hP.cells
  go_enter Tryd.func26, Tryd.ntmps26
  go_wp2_with (first | (go_at_call 25; refine (rCanon_any _ _ HSA.out).mono ?_; rintro e w3 ⟨⟨q, HQ, rfl⟩, hg⟩; obtain rfl := HQ.out.symm; have hb1 := hb.trans' hg; clear hg) | (go_at_call 42; refine (rtext_any _ _ HSM.out).mono ?_; rintro e w4 ⟨rfl, hg⟩; have hb2 := hb1.trans' hg; clear hg))
  go_ret
  exact ⟨rfl, hb2⟩
theorem eqA_comm (a b : AtomD) : eqA a b = eqA b a := by
  rw [Bool.eq_iff_iff, eqA_iff, eqA_iff]
  exact ⟨Eq.symm, Eq.symm⟩
theorem any_flip (l : List AtomD) (y : AtomD) : l.any (fun x => eqA x y) = l.any (eqA y) := by
  congr 1
  funext x
  exact eqA_comm x y
theorem any_takeA {l : List AtomD} {k : Nat} (y : AtomD) (h : k < l.length) : (l.take (k + 1)).any (fun x => eqA x y) = ((l.take k).any (fun x => eqA x y) || eqA l[k] y) := by
  rw [List.take_add_one, List.getElem?_eq_getElem h, List.any_append]; simp
set_option maxRecDepth 20000 in
set_option maxHeartbeats 8000000 in
theorem rDistinctV_any (A : Option Addr) (l : List AtomD) (ca : Nat) (w : World) (hL : AL w A ca l) (hl : l.length ≤ 100000) (hk : ∀ x ∈ l, AtomSm x) :
    Calls Tryd.prog 28 #[.slice A l.length ca] w fun e w' => (∃ q c, RowKit.Hid (OA w w' q c (distinctD l)) ∧ e = .returned (.slice q (distinctD l).length c)) ∧ Bel w w' := by
  have HL := Lib.hid hL
  have HK := Lib.hid hk
  clear hL hk
  go_enter Tryd.func28, Tryd.ntmps28
  go_wp2
  go_loopw [3, 4] (fun s3 i wr => ∃ (k : Nat) (out : List AtomD) (q : Option Addr) (c : Nat), k ≤ l.length ∧ i = .int .i64 k ∧ s3 = .slice q out.length c ∧ out.length ≤ k ∧ RowKit.Hid (out = distinctD (l.take k) ∧ OA w wr q c out)) (fun _ i _ => l.length - (intOf i).toNat)
  case atStart => exact ⟨0, [], none, 0, Nat.zero_le _, rfl, rfl, Nat.le_refl _, Lib.hid ⟨rfl, OA.nil _ (Below.refl _ _)⟩⟩
  case round =>
    obtain ⟨k, out, q, c, hk, rfl, rfl, hol, H⟩ := hrel
    have HE := Lib.hid H.out.1
    have HO := Lib.hid H.out.2
    have HW : RowKit.Hid (Bel w wr) := Lib.hid HO.out.bel
    clear H
    by_cases hlt : k < l.length
    · obtain ⟨b, o, rfl, hbb, hc⟩ := al_get (HL.out.bel HW.out) (by omega)
      obtain ⟨c0, c1, c2, c3, c4, c5, c6, c7, c8, c9, c10⟩ := hc k hlt
      have hq : (0 : Int) ≤ k := by omega
      have hq2 : (k : Int) < l.length := by omega
      have HSU := Lib.hid (distinct_succ hlt)
      have HKX := Lib.hid (HK.out _ (List.getElem_mem hlt))
      clear hc hbb
      generalize l[k] = x at c0 c1 c2 c3 c4 c5 c6 c7 c8 c9 c10 HSU HKX
      go_wp2_with (go_at_call 25; refine (rCanon_any _ _ HKX.out.args).mono ?_; rintro e w2 ⟨⟨y, HY, rfl⟩, hg⟩; have HYA := Lib.hid (AtomAt.new w2 y); have HG := Lib.hid (hg.trans' (bel_alloc w2 (.cells #[.string y.says, .string y.pred, .int .i64 y.n, .bool y.t0.v, .string y.t0.name, .bool y.t1.v, .string y.t1.name, .bool y.t2.v, .string y.t2.name, .bool y.t3.v, .string y.t3.name] 27))); have HO2 := Lib.hid (HO.out.bel' HG.out); have hyl := HYA.out.lt; clear hg c0 c1 c2 c3 c4 c5 c6 c7 c8 c9 c10)
      go_loopw [6, 7] (fun s6 s7 wq => ∃ n : Nat, n ≤ out.length ∧ s7 = .int .i64 n ∧ s6 = .bool ((out.take n).any (fun x => eqA x y)) ∧ RowKit.Hid (Bel (w2.alloc (.cells #[.string y.says, .string y.pred, .int .i64 y.n, .bool y.t0.v, .string y.t0.name, .bool y.t1.v, .string y.t1.name, .bool y.t2.v, .string y.t2.name, .bool y.t3.v, .string y.t3.name] 27)) wq)) (fun _ s7 _ => out.length - (intOf s7).toNat)
      case atStart => exact ⟨0, Nat.zero_le _, rfl, rfl, Lib.hid (Below.refl _ _)⟩
      case round =>
        obtain ⟨n, hn, rfl, rfl, HQ⟩ := hrel
        have HO3 := Lib.hid (HO2.out.bel' HQ.out)
        have HYB := Lib.hid (HYA.out.bel HQ.out)
        obtain ⟨y0, y1, y2, y3, y4, y5, y6, y7, y8, y9, y10⟩ := HYB.out.cells
        by_cases hln : n < out.length
        · obtain ⟨bd, od, rfl, hbb, hc⟩ := al_get (al_own HO3.out) (by omega)
          obtain ⟨d0, d1, d2, d3, d4, d5, d6, d7, d8, d9, d10⟩ := hc n hln
          have hp : (0 : Int) ≤ n := by omega
          have hp2 : (n : Int) < out.length := by omega
          have HAN := Lib.hid (any_takeA y hln)
          clear hc hbb
          generalize out[n] = z at d0 d1 d2 d3 d4 d5 d6 d7 d8 d9 d10 HAN
          have hqe := eql_atom z y
          cases hth : (out.take n).any (fun x => eqA x y)
          · have HN : RowKit.Hid ((out.take (n + 1)).any (fun x => eqA x y) = eqA z y) := Lib.hid (by rw [HAN.out, hth]; rfl)
            go_wp2
            go_quiet (fail)
            go_wp2
            go_roundw
            case rel => exact ⟨n + 1, by omega, by go_num, by rw [HN.out], Lib.hid (HQ.out.trans' (by first | exact Below.refl _ _ | exact bel_drewN _ _))⟩
            case measure => simp [intOf]; omega
          · have HN : RowKit.Hid ((out.take (n + 1)).any (fun x => eqA x y) = true) := Lib.hid (by rw [HAN.out, hth]; rfl)
            go_wp2
            go_quiet (fail)
            go_wp2
            go_roundw
            case rel => exact ⟨n + 1, by omega, by go_num, by rw [HN.out], Lib.hid (HQ.out.trans' (by first | exact Below.refl _ _ | exact bel_drewN _ _))⟩
            case measure => simp [intOf]; omega
        · obtain rfl : n = out.length := by omega
          have HANY : RowKit.Hid ((out.take out.length).any (fun x => eqA x y) = out.any (eqA (canonD x))) := Lib.hid (by rw [List.take_length, any_flip, HY.out])
          cases hm : out.any (eqA (canonD x))
          · have HN : RowKit.Hid (distinctD (l.take (k + 1)) = out ++ [y]) := Lib.hid (by rw [HSU.out, ← HE.out, stepC_out hm, HY.out])
            rw [HANY.out, hm]
            clear hm HANY
            go_wp2_with (at_builtin; refine wpList_pushA rfl (.tmp 36) (.tmp 38) 29 Tryd.underlying29 rfl y rfl rfl HO3.out (by omega) ?_; intro q' c' w5 out' HX5 HO5)
            go_roundw
            case rel => exact ⟨k + 1, out', q', c', by omega, by go_num, rfl, by rw [HX5.out]; simp; omega, Lib.hid ⟨HX5.out.trans HN.out.symm, HO5.out⟩⟩
            case measure => simp [intOf]; omega
          · have HN : RowKit.Hid (distinctD (l.take (k + 1)) = out) := Lib.hid (by rw [HSU.out, ← HE.out, stepC_in hm])
            rw [HANY.out, hm]
            clear hm HANY
            go_wp2
            go_roundw
            case rel => exact ⟨k + 1, out, q, c, by omega, by go_num, rfl, by omega, Lib.hid ⟨HN.out.symm, HO3.out⟩⟩
            case measure => simp [intOf]; omega
    · obtain rfl : k = l.length := by omega
      have HN : RowKit.Hid (out = distinctD l) := Lib.hid (by have := HE.out; rwa [List.take_length] at this)
      go_wp2
      go_ret
      rw [← HN.out]
      exact ⟨⟨q, c, HO, rfl⟩, HW.out⟩
end Go.Proofs.YtiokjjiakcbmhaaDoor
