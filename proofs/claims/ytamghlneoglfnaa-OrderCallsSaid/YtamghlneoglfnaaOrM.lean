/-
  The walks of Remove, Minus and Merge. Conditions: as each says.
-/
import Derived.Test.YtamghlneoglfnaaOrL
namespace Go.Proofs.Ytamghlneoglfnaa
open Go.RowKit


set_option maxRecDepth 20000 in
set_option maxHeartbeats 8000000 in
theorem Remove_any (A : Option Addr) (l : List AtomD) (n ca : Nat) (hn : l.length = n) (a : AtomD) (w : World) (hL : AL w A ca l) (hl : l.length ≤ 100000) (hs : SmA l) (ha : AtomSm a) :
    Calls Try.prog 12 #[.slice A n ca, .agg #[.string a.says, .string a.pred, .int .i64 a.n, .bool a.t0.v, .string a.t0.name, .bool a.t1.v, .string a.t1.name, .bool a.t2.v, .string a.t2.name, .bool a.t3.v, .string a.t3.name]] w fun e w' => (∃ q c, RowKit.Hid (OA w w' q c (removeD l a)) ∧ e = .returned (.tuple #[.slice q (removeD l a).length c,   .bool (hasK l a)])) ∧ Bel w w' := by
  subst hn
  have HL := Lib.hid hL
  have HS := Lib.hid hs
  have hls : (sortedD l).length ≤ 100000 := Nat.le_trans (sorted_lenA l) hl
  clear hL hs
  obtain ⟨r, hr⟩ : ∃ r, r = removeD l a := ⟨_, rfl⟩
  obtain ⟨hk, hh⟩ : ∃ b, b = hasK l a := ⟨_, rfl⟩
  have HRR := Lib.hid hr
  have HKK := Lib.hid hh
  rw [← hr, ← hh]
  clear hr hh
  have hP := AtomAt.new w a
  have hb := bel_alloc w (.cells #[.string a.says, .string a.pred, .int .i64 a.n, .bool a.t0.v, .string a.t0.name, .bool a.t1.v, .string a.t1.name, .bool a.t2.v, .string a.t2.name, .bool a.t3.v, .string a.t3.name] 27)
  obtain ⟨c0, c1, c2, c3, c4, c5, c6, c7, c8, c9, c10⟩ := hP.cells
  go_enter Try.func12, Try.ntmps12
  go_wp2_with (fail)
  refine (settled_any A l l.length ca rfl _ (HL.out.bel hb) hl HS.out).mono ?_
  rintro e w1 ⟨⟨q, c, HQ, rfl⟩, hg⟩
  replace hP := hP.bel hg
  replace hb := hb.trans' hg
  clear hg c0 c1 c2 c3 c4 c5 c6 c7 c8 c9 c10
  obtain ⟨c0, c1, c2, c3, c4, c5, c6, c7, c8, c9, c10⟩ := hP.cells
  go_wp2_with (fail)
  refine (find_any q (sortedD l) _ c rfl a _ HQ.out hls (sm_sorted HS.out) ha).mono ?_
  rintro e w2 ⟨⟨i, b, HF, rfl⟩, hg⟩
  replace hP := hP.bel hg
  have HB := Lib.hid (hb.trans' hg)
  replace HQ := Lib.hid (HQ.out.bel hg)
  clear hb hg c0 c1 c2 c3 c4 c5 c6 c7 c8 c9 c10

  cases b
  case false =>
    have hE2 : sortedD l = r := (find_out HF.out).1.trans HRR.out.symm
    obtain rfl : hk = false := HKK.out.trans (find_out HF.out).2
    clear HF HRR HKK
    rw [hE2] at HQ hls ⊢
    clear hE2
    go_wp2_with (fail)
    refine (cloneA_any q r r.length c rfl _ HQ.out hls).mono ?_
    rintro e w3 ⟨⟨q3, c3, HO, rfl⟩, hg⟩
    have HB3 := Lib.hid (HB.out.trans' hg)
    go_wp2
    go_ret2
    exact ⟨⟨q3, c3, Lib.hid ⟨HO.out.row, HB3.out, fun g h => by have := HO.out.new g h; have := HB.out.size; omega⟩, rfl⟩, HB3.out⟩
  have HR := Lib.hid (find_remove HF.out)
  have hil := HR.out.2.2
  have hsc := HQ.out.le
  clear HF
  obtain rfl : hk = true := HKK.out.trans HR.out.2.1
  have hrl : r.length ≤ 200000 := by
    rw [HRR.out, ← HR.out.1]; simp; omega
  have HR2 : RowKit.Hid ([(sortedD l).take i, (sortedD l).drop (i + 1)].flatten = r) := Lib.hid (by rw [HRR.out, ← HR.out.1]; simp)
  clear HR HRR HKK
  have hi0 : (0 : Int) ≤ i := by omega
  have hi1 : (i : Int) + 1 ≤ (sortedD l).length := by omega
  have hi2 : (i : Int) ≤ c := by omega
  have hi3 : i ≤ c := by omega
  have hi6 : (0 : Int) ≤ (i : Int) + 1 := by omega
  have hw1 : IntKind.i64.wrap ((i : Int) + 1) = (i : Int) + 1 := IntWalk.i64_in _ (by omega)
  have htk := HQ.out.take i
  have htl : ((sortedD l).take i).length = i := by rw [List.length_take]; omega
  have hdl : ((sortedD l).drop (i + 1)).length = (sortedD l).length - (i + 1) := List.length_drop
  have hpos : ∀ ad, q = some ad → ∃ b o, ad = ⟨b, o, none⟩ := fun ad e => HQ.out.lt ad e (by omega)
  have hno : q = none → c = 0 := HQ.out.nil
  have hdr := fun b o (e : q = some ⟨b, o, none⟩) => al_drop (b := b) (o := o) (e ▸ HQ.out) (i := i + 1) (by omega)
  have hen : i + 1 = c → (sortedD l).drop (i + 1) = [] := fun h => List.drop_of_length_le (by omega)
  generalize (sortedD l).take i = s1 at HR2 htk htl
  generalize (sortedD l).drop (i + 1) = s2 at HR2 hdl hdr hen
  have hCC : ∀ (D : Option Addr) (m d : Nat), s2.length = m → AL w2 D d s2 → Calls Try.prog 40 #[.slice (some ⟨w2.heap.size, 0, none⟩) 2 2] (w2.alloc (.cells #[.slice q i c, .slice D m d] 29)).drew fun e w' => (∃ q' c', RowKit.Hid (OA w w' q' c' r) ∧ e = .returned (.slice q' r.length c')) ∧ Bel w w' ∧ AtomAt w' w.heap.size a := fun D m d hm hD => by
    have h0 := heap_alloc_new w2 (.cells #[.slice q i c, .slice D m d] 29)
    have hA2 := bel_alloc w2 (.cells #[.slice q i c, .slice D m d] 29)
    have hV := (LV.two h0 htl (htk.bel hA2) hm (hD.bel hA2)).bel (bel_drew' (Below.refl _ _))
    have hBW := HB.out.trans' (hA2.trans' (bel_drew' (Below.refl _ _)))
    refine (Concat_any _ _ _ 2 2 rfl _ hV (by rw [HR2.out]; omega) (by decide)).mono ?_
    rw [HR2.out]
    rintro e w' ⟨⟨q', c', HO, rfl⟩, hg⟩
    exact ⟨⟨q', c', Lib.hid ⟨HO.out.row, hBW.trans' hg, fun g h => by have := HO.out.new g h; have := hBW.size; omega⟩, rfl⟩, hBW.trans' hg, ((hP.bel hA2).bel (bel_drew' (Below.refl _ _))).bel hg⟩
  clear hrl HR2 htk htl
  replace hP := hP.drew
  obtain ⟨c0, c1, c2, c3, c4, c5, c6, c7, c8, c9, c10⟩ := hP.cells
  have HP := Lib.hid hP

  cases q with
  | none => exact absurd (hno rfl) (by omega)
  | some ad =>
    obtain ⟨b, o, rfl⟩ := hpos ad rfl
    by_cases hic : i + 1 = c
    · subst hic
      have hl3 : (sortedD l).length = i + 1 := by omega
      have hi7 : (i : Int) ≤ (i : Int) + 1 := by omega
      have hi8 : (i : Int) + 1 ≤ (i : Int) + 1 := by omega
      have HC := Lib.hid (hCC (some ⟨b, o, none⟩) 0 0 (by rw [hdl]; omega) (al_end _ _ (hen rfl)))
      rw [hl3]
      clear hCC hdr hen hpos hno hdl HQ hP
      go_wp2
      go_region_held3 (fun w' => (w'.cell? ⟨w.heap.size, 0, none⟩ = some (.string a.says) ∧ w'.cell? ⟨w.heap.size, 1, none⟩ = some (.string a.pred) ∧ w'.cell? ⟨w.heap.size, 2, none⟩ = some (.int .i64 a.n) ∧ w'.cell? ⟨w.heap.size, 3, none⟩ = some (.bool a.t0.v) ∧ w'.cell? ⟨w.heap.size, 4, none⟩ = some (.string a.t0.name) ∧ w'.cell? ⟨w.heap.size, 5, none⟩ = some (.bool a.t1.v) ∧ w'.cell? ⟨w.heap.size, 6, none⟩ = some (.string a.t1.name) ∧ w'.cell? ⟨w.heap.size, 7, none⟩ = some (.bool a.t2.v) ∧ w'.cell? ⟨w.heap.size, 8, none⟩ = some (.string a.t2.name) ∧ w'.cell? ⟨w.heap.size, 9, none⟩ = some (.bool a.t3.v) ∧ w'.cell? ⟨w.heap.size, 10, none⟩ = some (.string a.t3.name))) (first | exact HPX.out.cells | exact HP.out.cells | exact (HP.out.bel (bel_alloc _ _)).cells | exact ((HP.out.bel (bel_alloc _ _)).bel (bel_alloc _ _)).cells | go_keep | trivial)
        (first | (go_at_call 40; refine HC.out.mono ?_; rintro e w9 ⟨⟨q9, c9, HO, rfl⟩, hg, hpx⟩; have HG := Lib.hid hg; have HPX := Lib.hid hpx; clear hg hpx))
      all_goals go_wp2
      all_goals go_ret2
      all_goals exact ⟨⟨q9, c9, HO, rfl⟩, HG.out⟩
    · have hi4 : (i : Int) + 1 < c := by omega
      have hi5 : ¬ c = i + 1 := fun e => hic e.symm
      have HC := Lib.hid (hCC (some ⟨b, o + (i + 1) * 11, none⟩) ((sortedD l).length - (i + 1)) (c - (i + 1)) hdl (hdr b o rfl))
      generalize (sortedD l).length = sl at *
      clear hCC hdr hen hpos hno hdl HQ hP
      go_wp2
      go_region_held3 (fun w' => (w'.cell? ⟨w.heap.size, 0, none⟩ = some (.string a.says) ∧ w'.cell? ⟨w.heap.size, 1, none⟩ = some (.string a.pred) ∧ w'.cell? ⟨w.heap.size, 2, none⟩ = some (.int .i64 a.n) ∧ w'.cell? ⟨w.heap.size, 3, none⟩ = some (.bool a.t0.v) ∧ w'.cell? ⟨w.heap.size, 4, none⟩ = some (.string a.t0.name) ∧ w'.cell? ⟨w.heap.size, 5, none⟩ = some (.bool a.t1.v) ∧ w'.cell? ⟨w.heap.size, 6, none⟩ = some (.string a.t1.name) ∧ w'.cell? ⟨w.heap.size, 7, none⟩ = some (.bool a.t2.v) ∧ w'.cell? ⟨w.heap.size, 8, none⟩ = some (.string a.t2.name) ∧ w'.cell? ⟨w.heap.size, 9, none⟩ = some (.bool a.t3.v) ∧ w'.cell? ⟨w.heap.size, 10, none⟩ = some (.string a.t3.name))) (first | exact HPX.out.cells | exact HP.out.cells | exact (HP.out.bel (bel_alloc _ _)).cells | exact ((HP.out.bel (bel_alloc _ _)).bel (bel_alloc _ _)).cells | go_keep | trivial)
        (first | (go_at_call 40; refine HC.out.mono ?_; rintro e w9 ⟨⟨q9, c9, HO, rfl⟩, hg, hpx⟩; have HG := Lib.hid hg; have HPX := Lib.hid hpx; clear hg hpx))
      all_goals go_wp2
      all_goals go_ret2
      all_goals exact ⟨⟨q9, c9, HO, rfl⟩, HG.out⟩


set_option maxRecDepth 20000 in
set_option maxHeartbeats 8000000 in
theorem Minus_any (A : Option Addr) (l : List AtomD) (n ca : Nat) (hn : l.length = n) (B : Option Addr) (m : List AtomD) (nb cb : Nat) (hnb : m.length = nb) (w : World) (hL : AL w A ca l) (hl : l.length ≤ 100000) (hs : SmA l) (hM : AL w B cb m) (hm : m.length ≤ 100000) (hsm : SmA m) :
    Calls Try.prog 17 #[.slice A n ca, .slice B nb cb] w fun e w' => (∃ q c, RowKit.Hid (OA w w' q c (minusD l m)) ∧ e = .returned (.slice q (minusD l m).length c)) ∧ Bel w w' := by
  subst hn hnb
  have HM := Lib.hid hM
  have HSM := Lib.hid hsm
  have HSL := Lib.hid hs
  obtain ⟨r, hr⟩ : ∃ r, r = minusD l m := ⟨_, rfl⟩
  have HRR := Lib.hid hr
  rw [← hr]
  clear hr
  go_enter Try.func17, Try.ntmps17
  go_wp2_with (fail)
  refine (settled_any A l l.length ca rfl _ hL hl hs).mono ?_
  rintro e w1 ⟨⟨q, c, HQ, rfl⟩, hg⟩
  have HB := Lib.hid hg
  clear hg
  go_wp2_with (fail)
  refine (settled_any B m m.length cb rfl _ (HM.out.bel HB.out) hm hsm).mono ?_
  rintro e w2 ⟨⟨q2, cc2, HQ2, rfl⟩, hg⟩
  replace HQ := Lib.hid (HQ.out.bel hg)
  replace HB := Lib.hid (HB.out.trans' hg)
  obtain ⟨s, hs0⟩ : ∃ s, s = sortedD l := ⟨_, rfl⟩
  have HSS := Lib.hid hs0
  have hsl : s.length ≤ 100000 := by rw [hs0]; exact Nat.le_trans (sorted_lenA l) hl
  have hml : (sortedD m).length ≤ 100000 := Nat.le_trans (sorted_lenA m) hm
  have HSX : RowKit.Hid (SmA s) := Lib.hid (by rw [hs0]; exact sm_sorted HSL.out)
  have HF0 : RowKit.Hid (∀ x i b, FindD (sortedD m) (textD x) i b → b = hasK m x) := Lib.hid (fun x i b h => by rw [← sorted_hasK]; exact find_has (sorted_ascA m) h)
  have HR2 : RowKit.Hid (r = s.filter (fun a => !hasK m a)) := Lib.hid (by rw [HRR.out, hs0]; rfl)
  rw [← hs0] at HQ ⊢
  clear hg hL hM hs hsm hs0 HRR HSS HSL HM
  have HSO := Lib.hid (sm_sorted HSM.out)
  generalize sortedD m = ms at HQ2 hml HF0 HSO ⊢
  go_wp2
  go_loopw [5, 16] (fun s5 i wr => ∃ (k : Nat) (out : List AtomD) (q' : Option Addr) (c' : Nat), k ≤ s.length ∧ i = .int .i64 k ∧ s5 = .slice q' out.length c' ∧ out.length ≤ k ∧ RowKit.Hid (out = (s.take k).filter (fun a => !hasK m a)) ∧ RowKit.Hid (OA w2 wr q' c' out) ∧ RowKit.Hid (Bel w2 wr)) (fun _ i _ => s.length - (intOf i).toNat)
  case atStart => exact ⟨0, [], none, 0, Nat.zero_le _, rfl, rfl, Nat.le_refl _, Lib.hid rfl, Lib.hid (OA.nil w2 (Below.refl _ _)), Lib.hid (Below.refl _ _)⟩
  case round =>
    obtain ⟨k, out, q', c', hk, rfl, rfl, hol, HE, HO, HW⟩ := hrel
    by_cases hlt : k < s.length
    case neg =>
      obtain rfl : k = s.length := by omega
      have HX : RowKit.Hid (out = r) := Lib.hid (by rw [HR2.out, HE.out, List.take_length])
      obtain rfl : r = out := HX.out.symm
      go_wp2
      go_ret
      exact ⟨⟨q', c', Lib.hid ⟨HO.out.row, HB.out.trans' HW.out, fun g h => by have := HO.out.new g h; have := HB.out.size; omega⟩, rfl⟩, HB.out.trans' HW.out⟩
    obtain ⟨b, o, rfl, hbb, hc⟩ := al_get (HQ.out.bel HW.out) (by omega)
    obtain ⟨c0, c1, c2, c3, c4, c5, c6, c7, c8, c9, c10⟩ := hc k hlt
    have hq : (0 : Int) ≤ k := by omega
    have hq2 : (k : Int) < s.length := by omega
    have HX := Lib.hid (HSX.out _ (List.getElem_mem hlt))
    have HN := Lib.hid (minus_succ (m := m) hlt)
    clear hc hbb
    generalize s[k] = x at c0 c1 c2 c3 c4 c5 c6 c7 c8 c9 c10 HX HN
    have HA := Lib.hid (bel_alloc wr (.cells #[.string x.says, .string x.pred, .int .i64 x.n, .bool x.t0.v, .string x.t0.name, .bool x.t1.v, .string x.t1.name, .bool x.t2.v, .string x.t2.name, .bool x.t3.v, .string x.t3.name] 27))
    have HP := Lib.hid (AtomAt.new wr x)
    obtain ⟨x0, x1, x2, x3, x4, x5, x6, x7, x8, x9, x10⟩ := HP.out.cells
    go_wp2_with (fail)
    refine (find_any q2 ms ms.length cc2 rfl x _ (HQ2.out.bel (HW.out.trans' HA.out)) hml HSO.out HX.out).mono ?_
    rintro e w5 ⟨⟨i, f, HFD, rfl⟩, hg⟩
    have HP5 := Lib.hid (HP.out.bel hg)
    have HW5 := Lib.hid (HW.out.trans' (HA.out.trans' hg))
    have HO5 := Lib.hid (HO.out.bel' (HA.out.trans' hg))
    have hf := HF0.out x i f HFD.out
    clear hg x0 x1 x2 x3 x4 x5 x6 x7 x8 x9 x10 HFD
    obtain ⟨x0, x1, x2, x3, x4, x5, x6, x7, x8, x9, x10⟩ := HP5.out.cells
    cases f
    · have HN2 : RowKit.Hid ((s.take (k + 1)).filter (fun a => !hasK m a) = out ++ [x]) := Lib.hid (by rw [HN.out, ← hf, ← HE.out]; rfl)
      clear hf
      go_wp2_with (at_builtin; refine wpList_pushA rfl (.tmp 28) (.tmp 30) 29 Try.underlying29 rfl x rfl rfl HO5.out (by omega) ?_; intro q6 c6 w6 out6 HX6 HO6)
      go_roundw
      case rel => exact ⟨k + 1, out6, q6, c6, by omega, by go_num, rfl, by rw [HX6.out]; simp; omega, Lib.hid (by rw [HX6.out, HN2.out]), HO6, Lib.hid HO6.out.bel⟩
      case measure => simp [intOf]; omega
    · have HN2 : RowKit.Hid ((s.take (k + 1)).filter (fun a => !hasK m a) = out) := Lib.hid (by rw [HN.out, ← hf, ← HE.out]; simp)
      clear hf
      go_wp2
      go_roundw
      case rel => exact ⟨k + 1, out, q', c', by omega, by go_num, rfl, by omega, Lib.hid HN2.out.symm, HO5, HW5⟩
      case measure => simp [intOf]; omega


set_option maxRecDepth 20000 in
set_option maxHeartbeats 4000000 in
theorem Merge_any (A : Option Addr) (vs : List SlV) (L : List (List AtomD)) (n ca : Nat) (hn : vs.length = n) (w : World) (hL : LV w A ca vs L) (hl : L.flatten.length ≤ 100000) (hl2 : n ≤ 1000) (hs : SmA L.flatten) :
    Calls Try.prog 16 #[.slice A n ca] w fun e w' => (∃ q c, RowKit.Hid (OA w w' q c (sortedD L.flatten)) ∧ e = .returned (.slice q (sortedD L.flatten).length c)) ∧ Bel w w' := by
  subst hn
  have HL := Lib.hid hL
  have HLN := Lib.hid hL.len
  clear hL
  have HFL := Lib.hid (flat_part_le L)
  have HS := Lib.hid hs
  obtain ⟨tot, htot⟩ : ∃ t, t = L.flatten := ⟨_, rfl⟩
  have HT := Lib.hid htot
  rw [← htot] at hl ⊢
  clear htot hs
  go_enter Try.func16, Try.ntmps16
  go_wp2
  go_loopw [3, 8] (fun s6 i wr => ∃ (k t : Nat) (q : Option Addr) (c : Nat), k ≤ vs.length ∧ i = .int .i64 k ∧ s6 = .slice q t c ∧ t ≤ tot.length ∧ RowKit.Hid (t = ((L.take k).flatten).length) ∧ RowKit.Hid (OA w wr q c ((L.take k).flatten)) ∧ RowKit.Hid (Bel w wr)) (fun _ i _ => vs.length - (intOf i).toNat)
  case atStart => exact ⟨0, 0, none, 0, Nat.zero_le _, rfl, rfl, Nat.zero_le _, Lib.hid rfl, Lib.hid (OA.nil w (Below.refl _ _)), Lib.hid (Below.refl _ _)⟩
  case round =>
    obtain ⟨k, t, q, c, hk, rfl, rfl, htt, HK, HO, HB⟩ := hrel
    by_cases hlt : k < vs.length
    · obtain ⟨b, o, rfl, hc⟩ := lv_at HL.out hlt
      have c0 := hc _ HB.out
      have hq : (0 : Int) ≤ k := by omega
      have hq2 : (k : Int) < vs.length := by omega
      have hkL : k < L.length := by rw [← HLN.out]; exact hlt
      have hlen := (HL.out.each k hlt hkL).1
      have HAL := Lib.hid ((HL.out.bel HB.out).each k hlt hkL).2
      have HS2 : RowKit.Hid (((L.take (k + 1)).flatten).length = t + vs[k].2.1) := Lib.hid (by rw [flat_take_succ hkL, List.length_append, hlen, HK.out])
      have HF : RowKit.Hid ((L.take (k + 1)).flatten = (L.take k).flatten ++ L[k]) := Lib.hid (flat_take_succ hkL)
      have hle : t + vs[k].2.1 ≤ tot.length := by rw [← HS2.out, HT.out]; exact HFL.out _
      have HLK := Lib.hid hlen
      clear hc hlen
      generalize vs[k] = v at c0 HS2 hle HAL HLK
      obtain ⟨vA, vn, vc⟩ := v
      simp only at c0 HS2 hle HAL HLK
      go_wp2_with (at_builtin; refine wpList_catA rfl (.tmp 12) (.tmp 13) rfl rfl rfl HO.out HK.out.symm HAL.out HLK.out (by omega) ?_; intro q5 c5 w5 HO5)
      go_roundw
      case rel => exact ⟨k + 1, t + vn, q5, c5, by omega, by go_num, rfl, hle, Lib.hid HS2.out.symm, Lib.hid (by rw [HF.out]; exact HO5.out), Lib.hid HO5.out.bel⟩
      case measure => simp [intOf]; omega
    · obtain rfl : k = vs.length := by omega
      have HE : RowKit.Hid (OA w wr q c tot) := Lib.hid (by have := HO.out; rwa [HLN.out, List.take_length, ← HT.out] at this)
      have HE2 : RowKit.Hid (tot.length = t) := Lib.hid (by have := HK.out; rw [HLN.out, List.take_length, ← HT.out] at this; exact this.symm)
      have HSX : RowKit.Hid (SmA tot) := Lib.hid (by rw [HT.out]; exact HS.out)
      clear HO HK
      go_wp2_with (fail)
      refine (Sorted_any q tot t c HE2.out _ (OwnL.slice EA HE.out) hl HSX.out).mono ?_
      rintro e w2 ⟨⟨q2, c2, HO2, rfl⟩, hg⟩
      go_wp2
      go_ret
      exact ⟨⟨q2, c2, Lib.hid ⟨HO2.out.row, HB.out.trans' hg, fun g h => by have := HO2.out.new g h; have := HB.out.size; omega⟩, rfl⟩, HB.out.trans' hg⟩
end Go.Proofs.Ytamghlneoglfnaa
