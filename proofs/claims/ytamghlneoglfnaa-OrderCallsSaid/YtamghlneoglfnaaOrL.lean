/-
  The walks of Has, Add, Remove, Minus and Merge. Conditions: as each says.
-/
import Derived.Test.YtamghlneoglfnaaOrJ
namespace Go.Proofs.Ytamghlneoglfnaa
open Go.RowKit

set_option maxRecDepth 20000 in
set_option maxHeartbeats 4000000 in
theorem Has_any (A : Option Addr) (l : List AtomD) (n ca : Nat) (hn : l.length = n) (a : AtomD) (w : World) (hL : AL w A ca l) (hl : l.length ≤ 100000) (hs : SmA l) (ha : AtomSm a) :
    Calls Try.prog 15 #[.slice A n ca, .agg #[.string a.says, .string a.pred, .int .i64 a.n, .bool a.t0.v, .string a.t0.name, .bool a.t1.v, .string a.t1.name, .bool a.t2.v, .string a.t2.name, .bool a.t3.v, .string a.t3.name]] w fun e w' => e = .returned (.bool (hasK l a)) ∧ Bel w w' := by
  subst hn
  have HL := Lib.hid hL
  have HS := Lib.hid hs
  have hls : (sortedD l).length ≤ 100000 := Nat.le_trans (sorted_lenA l) hl
  clear hL hs
  have hP := AtomAt.new w a
  have hb := bel_alloc w (.cells #[.string a.says, .string a.pred, .int .i64 a.n, .bool a.t0.v, .string a.t0.name, .bool a.t1.v, .string a.t1.name, .bool a.t2.v, .string a.t2.name, .bool a.t3.v, .string a.t3.name] 27)
  obtain ⟨c0, c1, c2, c3, c4, c5, c6, c7, c8, c9, c10⟩ := hP.cells
  go_enter Try.func15, Try.ntmps15
  go_wp2_with (fail)
  refine (find_any A l l.length ca rfl a _ (HL.out.bel hb) hl HS.out ha).mono ?_
  rintro e w1 ⟨⟨i, b, HF, rfl⟩, hg⟩
  replace hP := hP.bel hg
  have HB := Lib.hid (hb.trans' hg)
  clear hb hg c0 c1 c2 c3 c4 c5 c6 c7 c8 c9 c10
  cases b
  case true =>
    have HE := Lib.hid (find_any_hit HF.out)
    go_wp2
    go_ret
    exact ⟨ret_bool HE.out.symm, HB.out⟩
  replace hP := hP.drew
  obtain ⟨c0, c1, c2, c3, c4, c5, c6, c7, c8, c9, c10⟩ := hP.cells
  have hd := bel_drew' (Below.refl w1.heap.size w1)
  go_wp2
  go_region_held3 (fun w' => (w'.cell? ⟨w.heap.size, 0, none⟩ = some (.string a.says) ∧ w'.cell? ⟨w.heap.size, 1, none⟩ = some (.string a.pred) ∧ w'.cell? ⟨w.heap.size, 2, none⟩ = some (.int .i64 a.n) ∧ w'.cell? ⟨w.heap.size, 3, none⟩ = some (.bool a.t0.v) ∧ w'.cell? ⟨w.heap.size, 4, none⟩ = some (.string a.t0.name) ∧ w'.cell? ⟨w.heap.size, 5, none⟩ = some (.bool a.t1.v) ∧ w'.cell? ⟨w.heap.size, 6, none⟩ = some (.string a.t1.name) ∧ w'.cell? ⟨w.heap.size, 7, none⟩ = some (.bool a.t2.v) ∧ w'.cell? ⟨w.heap.size, 8, none⟩ = some (.string a.t2.name) ∧ w'.cell? ⟨w.heap.size, 9, none⟩ = some (.bool a.t3.v) ∧ w'.cell? ⟨w.heap.size, 10, none⟩ = some (.string a.t3.name))) (first | exact hP.cells | go_keep | trivial)
    (first | (go_at_call 37; refine (settled_any A l l.length ca rfl _ (HL.out.bel (HB.out.trans' hd)) hl HS.out).mono ?_; rintro e w9 ⟨⟨q, c, HQ, rfl⟩, hg⟩; replace hP := hP.bel hg; replace hd := hd.trans' hg; clear hg) | (go_at_call 38; refine (find_any q (sortedD l) _ c rfl a _ HQ.out hls (sm_sorted HS.out) ha).mono ?_; rintro e w9 ⟨⟨i2, b2, HF2, rfl⟩, hg⟩; replace hP := hP.bel hg; replace hd := hd.trans' hg; clear hg))
  all_goals
    have HE : RowKit.Hid (b2 = hasK l a) := Lib.hid (by rw [← sorted_hasK]; exact find_has (sorted_ascA l) HF2.out)
    go_wp2
    go_ret
    exact ⟨ret_bool HE.out, HB.out.trans' hd⟩


set_option maxRecDepth 20000 in
set_option maxHeartbeats 8000000 in
theorem Add_any (A : Option Addr) (l : List AtomD) (n ca : Nat) (hn : l.length = n) (a : AtomD) (w : World) (hL : AL w A ca l) (hl : l.length ≤ 100000) (hs : SmA l) (ha : AtomSm a) :
    Calls Try.prog 11 #[.slice A n ca, .agg #[.string a.says, .string a.pred, .int .i64 a.n, .bool a.t0.v, .string a.t0.name, .bool a.t1.v, .string a.t1.name, .bool a.t2.v, .string a.t2.name, .bool a.t3.v, .string a.t3.name]] w fun e w' => (∃ q c, RowKit.Hid (OA w w' q c (addD l a)) ∧ e = .returned (.tuple #[.slice q (addD l a).length c, .bool (!hasK l a)])) ∧ Bel w w' := by
  subst hn
  have HL := Lib.hid hL
  have HS := Lib.hid hs
  have hls : (sortedD l).length ≤ 100000 := Nat.le_trans (sorted_lenA l) hl
  clear hL hs
  obtain ⟨r, hr⟩ : ∃ r, r = addD l a := ⟨_, rfl⟩
  obtain ⟨hk, hh⟩ : ∃ b, b = hasK l a := ⟨_, rfl⟩
  have HRR := Lib.hid hr
  have HKK := Lib.hid hh
  rw [← hr, ← hh]
  clear hr hh
  have hP := AtomAt.new w a
  have hb := bel_alloc w (.cells #[.string a.says, .string a.pred, .int .i64 a.n, .bool a.t0.v, .string a.t0.name, .bool a.t1.v, .string a.t1.name, .bool a.t2.v, .string a.t2.name, .bool a.t3.v, .string a.t3.name] 27)
  obtain ⟨c0, c1, c2, c3, c4, c5, c6, c7, c8, c9, c10⟩ := hP.cells
  go_enter Try.func11, Try.ntmps11
  go_wp2_with (fail)
  refine (settled_any A l l.length ca rfl _ (HL.out.bel hb) hl HS.out).mono ?_
  rintro e w1 ⟨⟨q, c, HQ, rfl⟩, hg⟩
  replace hP := hP.bel hg
  replace hb := hb.trans' hg
  clear hg c0 c1 c2 c3 c4 c5 c6 c7 c8 c9 c10
  obtain ⟨c0, c1, c2, c3, c4, c5, c6, c7, c8, c9, c10⟩ := hP.cells
  go_wp2_with (fail)
  refine (find_any q (sortedD l) _ c rfl a _ HQ.out hls (sm_sorted HS.out) ha).mono ?_
  rintro e w2 ⟨⟨i, b, HF, rfl⟩, hg⟩
  replace hP := hP.bel hg
  have HB := Lib.hid (hb.trans' hg)
  replace HQ := Lib.hid (HQ.out.bel hg)
  clear hb hg c0 c1 c2 c3 c4 c5 c6 c7 c8 c9 c10

  cases b
  case true =>
    have HE : RowKit.Hid (hasK l a = true) := Lib.hid (by rw [← sorted_hasK]; exact (find_has (sorted_ascA l) HF.out).symm)
    have HR := Lib.hid (add_there HE.out)
    have hE2 : sortedD l = r := (HRR.out.trans HR.out).symm
    obtain rfl : hk = true := HKK.out.trans HE.out
    clear HF HRR HKK HR HE
    rw [hE2] at HQ hls ⊢
    clear hE2
    go_wp2_with (fail)
    refine (cloneA_any q r r.length c rfl _ HQ.out hls).mono ?_
    rintro e w3 ⟨⟨q3, c3, HO, rfl⟩, hg⟩
    have HB3 := Lib.hid (HB.out.trans' hg)
    go_wp2
    go_ret2
    exact ⟨⟨q3, c3, Lib.hid ⟨HO.out.row, HB3.out, fun g h => by have := HO.out.new g h; have := HB.out.size; omega⟩, rfl⟩, HB3.out⟩
  have HR := Lib.hid (find_add HF.out)
  have hil := HF.out.le
  have hsc := HQ.out.le
  clear HF
  obtain rfl : hk = false := HKK.out.trans HR.out.2
  have hrl : r.length ≤ 200000 := by
    rw [HRR.out, ← HR.out.1]; simp; omega
  have HR2 : RowKit.Hid ([(sortedD l).take i, [a], (sortedD l).drop i].flatten = r) := Lib.hid (by rw [HRR.out, ← HR.out.1]; simp)
  clear HR HRR HKK
  have hi0 : (0 : Int) ≤ i := by omega
  have hi1 : (i : Int) ≤ (sortedD l).length := by omega
  have hi2 : (i : Int) ≤ c := by omega
  have hi3 : i ≤ c := by omega
  have hA1 := bel_alloc w2 (.cells #[.string a.says, .string a.pred, .int .i64 a.n, .bool a.t0.v, .string a.t0.name, .bool a.t1.v, .string a.t1.name, .bool a.t2.v, .string a.t2.name, .bool a.t3.v, .string a.t3.name] 27)
  have hone := SliceAt.lit EA w2 27 [a] #[.string a.says, .string a.pred, .int .i64 a.n, .bool a.t0.v, .string a.t0.name, .bool a.t1.v, .string a.t1.name, .bool a.t2.v, .string a.t2.name, .bool a.t3.v, .string a.t3.name] rfl
  have htk := HQ.out.take i
  have htl : ((sortedD l).take i).length = i := by rw [List.length_take]; omega
  have hdl : ((sortedD l).drop i).length = (sortedD l).length - i := List.length_drop
  have hnil : c = 0 → sortedD l = [] := fun h => List.eq_nil_of_length_eq_zero (by omega)
  have hpos : 0 < c → ∀ ad, q = some ad → ∃ b o, ad = ⟨b, o, none⟩ := fun h ad e => HQ.out.lt ad e h
  have hno : q = none → c = 0 := HQ.out.nil
  have hdr := fun b o (e : q = some ⟨b, o, none⟩) => al_drop (b := b) (o := o) (e ▸ HQ.out) hil
  have hen : i = c → (sortedD l).drop i = [] := fun h => List.drop_of_length_le (by omega)
  generalize (sortedD l).take i = s1 at HR2 htk htl
  generalize (sortedD l).drop i = s2 at HR2 hdl hdr hen
  have hCC : ∀ (D : Option Addr) (m d : Nat), s2.length = m → AL w2 D d s2 → Calls Try.prog 40 #[.slice (some ⟨w2.heap.size + 1, 0, none⟩) 3 3] ((w2.alloc (.cells #[.string a.says, .string a.pred, .int .i64 a.n, .bool a.t0.v, .string a.t0.name, .bool a.t1.v, .string a.t1.name, .bool a.t2.v, .string a.t2.name, .bool a.t3.v, .string a.t3.name] 27)).alloc (.cells #[.slice q i c, .slice (some ⟨w2.heap.size, 0, none⟩) 1 1, .slice D m d] 29)).drew fun e w' => (∃ q' c', RowKit.Hid (OA w w' q' c' r) ∧ e = .returned (.slice q' r.length c')) ∧ Bel w w' ∧ AtomAt w' w.heap.size a := fun D m d hm hD => by
    have h0 := heap_alloc_new (w2.alloc (.cells #[.string a.says, .string a.pred, .int .i64 a.n, .bool a.t0.v, .string a.t0.name, .bool a.t1.v, .string a.t1.name, .bool a.t2.v, .string a.t2.name, .bool a.t3.v, .string a.t3.name] 27)) (.cells #[.slice q i c, .slice (some ⟨w2.heap.size, 0, none⟩) 1 1, .slice D m d] 29)
    rw [show (w2.alloc (.cells #[.string a.says, .string a.pred, .int .i64 a.n, .bool a.t0.v, .string a.t0.name, .bool a.t1.v, .string a.t1.name, .bool a.t2.v, .string a.t2.name, .bool a.t3.v, .string a.t3.name] 27)).heap.size = w2.heap.size + 1 by simp] at h0
    have hA2 := bel_alloc (w2.alloc (.cells #[.string a.says, .string a.pred, .int .i64 a.n, .bool a.t0.v, .string a.t0.name, .bool a.t1.v, .string a.t1.name, .bool a.t2.v, .string a.t2.name, .bool a.t3.v, .string a.t3.name] 27)) (.cells #[.slice q i c, .slice (some ⟨w2.heap.size, 0, none⟩) 1 1, .slice D m d] 29)
    have hV := (LV.three h0 htl ((htk.bel hA1).bel hA2) rfl (hone.bel hA2) hm ((hD.bel hA1).bel hA2)).bel (bel_drew' (Below.refl _ _))
    have hBW := HB.out.trans' ((hA1.trans' hA2).trans' (bel_drew' (Below.refl _ _)))
    refine (Concat_any _ _ _ 3 3 rfl _ hV (by rw [HR2.out]; omega) (by decide)).mono ?_
    rw [HR2.out]
    rintro e w' ⟨⟨q', c', HO, rfl⟩, hg⟩
    exact ⟨⟨q', c', Lib.hid ⟨HO.out.row, hBW.trans' hg, fun g h => by have := HO.out.new g h; have := hBW.size; omega⟩, rfl⟩, hBW.trans' hg, (((hP.bel hA1).bel hA2).bel (bel_drew' (Below.refl _ _))).bel hg⟩
  clear hrl HR2 hA1 hone htk htl
  replace hP := hP.drew
  obtain ⟨c0, c1, c2, c3, c4, c5, c6, c7, c8, c9, c10⟩ := hP.cells
  have HP := Lib.hid hP

  by_cases hc0 : c = 0
  · have hs0 := hnil hc0
    subst hc0
    obtain rfl : i = 0 := by omega
    have hz : (sortedD l).length = 0 := by rw [hs0]; rfl
    have HC := Lib.hid (hCC q 0 0 (by rw [hdl, hz]) (al_end _ _ (hen rfl)))
    rw [hz]
    clear hCC hdr hen hnil hpos hno hdl HQ hP
    go_wp2
    go_region_held3 (fun w' => (w'.cell? ⟨w.heap.size, 0, none⟩ = some (.string a.says) ∧ w'.cell? ⟨w.heap.size, 1, none⟩ = some (.string a.pred) ∧ w'.cell? ⟨w.heap.size, 2, none⟩ = some (.int .i64 a.n) ∧ w'.cell? ⟨w.heap.size, 3, none⟩ = some (.bool a.t0.v) ∧ w'.cell? ⟨w.heap.size, 4, none⟩ = some (.string a.t0.name) ∧ w'.cell? ⟨w.heap.size, 5, none⟩ = some (.bool a.t1.v) ∧ w'.cell? ⟨w.heap.size, 6, none⟩ = some (.string a.t1.name) ∧ w'.cell? ⟨w.heap.size, 7, none⟩ = some (.bool a.t2.v) ∧ w'.cell? ⟨w.heap.size, 8, none⟩ = some (.string a.t2.name) ∧ w'.cell? ⟨w.heap.size, 9, none⟩ = some (.bool a.t3.v) ∧ w'.cell? ⟨w.heap.size, 10, none⟩ = some (.string a.t3.name))) (first | exact HPX.out.cells | exact HP.out.cells | exact (HP.out.bel (bel_alloc _ _)).cells | exact ((HP.out.bel (bel_alloc _ _)).bel (bel_alloc _ _)).cells | go_keep | trivial)
      (first | (go_at_call 40; refine HC.out.mono ?_; rintro e w9 ⟨⟨q9, c9, HO, rfl⟩, hg, hpx⟩; have HG := Lib.hid hg; have HPX := Lib.hid hpx; clear hg hpx))
    all_goals go_wp2
    all_goals go_ret2
    all_goals exact ⟨⟨q9, c9, HO, rfl⟩, HG.out⟩
  cases q with
  | none => exact absurd (hno rfl) hc0
  | some ad =>
    obtain ⟨b, o, rfl⟩ := hpos (by omega) ad rfl
    by_cases hic : i = c
    · subst hic
      have hl3 : (sortedD l).length = i := by omega
      have HC := Lib.hid (hCC (some ⟨b, o, none⟩) 0 0 (by rw [hdl]; omega) (al_end _ _ (hen rfl)))
      rw [hl3]
      clear hCC hdr hen hnil hpos hno hdl HQ hP
      go_wp2
      go_region_held3 (fun w' => (w'.cell? ⟨w.heap.size, 0, none⟩ = some (.string a.says) ∧ w'.cell? ⟨w.heap.size, 1, none⟩ = some (.string a.pred) ∧ w'.cell? ⟨w.heap.size, 2, none⟩ = some (.int .i64 a.n) ∧ w'.cell? ⟨w.heap.size, 3, none⟩ = some (.bool a.t0.v) ∧ w'.cell? ⟨w.heap.size, 4, none⟩ = some (.string a.t0.name) ∧ w'.cell? ⟨w.heap.size, 5, none⟩ = some (.bool a.t1.v) ∧ w'.cell? ⟨w.heap.size, 6, none⟩ = some (.string a.t1.name) ∧ w'.cell? ⟨w.heap.size, 7, none⟩ = some (.bool a.t2.v) ∧ w'.cell? ⟨w.heap.size, 8, none⟩ = some (.string a.t2.name) ∧ w'.cell? ⟨w.heap.size, 9, none⟩ = some (.bool a.t3.v) ∧ w'.cell? ⟨w.heap.size, 10, none⟩ = some (.string a.t3.name))) (first | exact HPX.out.cells | exact HP.out.cells | exact (HP.out.bel (bel_alloc _ _)).cells | exact ((HP.out.bel (bel_alloc _ _)).bel (bel_alloc _ _)).cells | go_keep | trivial)
        (first | (go_at_call 40; refine HC.out.mono ?_; rintro e w9 ⟨⟨q9, c9, HO, rfl⟩, hg, hpx⟩; have HG := Lib.hid hg; have HPX := Lib.hid hpx; clear hg hpx))
      all_goals go_wp2
      all_goals go_ret2
      all_goals exact ⟨⟨q9, c9, HO, rfl⟩, HG.out⟩
    · have hi4 : (i : Int) < c := by omega
      have hi5 : ¬ c = i := fun e => hic e.symm
      have HC := Lib.hid (hCC (some ⟨b, o + i * 11, none⟩) ((sortedD l).length - i) (c - i) hdl (hdr b o rfl))
      generalize (sortedD l).length = sl at *
      clear hCC hdr hen hnil hpos hno hdl HQ hP
      go_wp2
      go_region_held3 (fun w' => (w'.cell? ⟨w.heap.size, 0, none⟩ = some (.string a.says) ∧ w'.cell? ⟨w.heap.size, 1, none⟩ = some (.string a.pred) ∧ w'.cell? ⟨w.heap.size, 2, none⟩ = some (.int .i64 a.n) ∧ w'.cell? ⟨w.heap.size, 3, none⟩ = some (.bool a.t0.v) ∧ w'.cell? ⟨w.heap.size, 4, none⟩ = some (.string a.t0.name) ∧ w'.cell? ⟨w.heap.size, 5, none⟩ = some (.bool a.t1.v) ∧ w'.cell? ⟨w.heap.size, 6, none⟩ = some (.string a.t1.name) ∧ w'.cell? ⟨w.heap.size, 7, none⟩ = some (.bool a.t2.v) ∧ w'.cell? ⟨w.heap.size, 8, none⟩ = some (.string a.t2.name) ∧ w'.cell? ⟨w.heap.size, 9, none⟩ = some (.bool a.t3.v) ∧ w'.cell? ⟨w.heap.size, 10, none⟩ = some (.string a.t3.name))) (first | exact HPX.out.cells | exact HP.out.cells | exact (HP.out.bel (bel_alloc _ _)).cells | exact ((HP.out.bel (bel_alloc _ _)).bel (bel_alloc _ _)).cells | go_keep | trivial)
        (first | (go_at_call 40; refine HC.out.mono ?_; rintro e w9 ⟨⟨q9, c9, HO, rfl⟩, hg, hpx⟩; have HG := Lib.hid hg; have HPX := Lib.hid hpx; clear hg hpx))
      all_goals go_wp2
      all_goals go_ret2
      all_goals exact ⟨⟨q9, c9, HO, rfl⟩, HG.out⟩

end Go.Proofs.Ytamghlneoglfnaa
