/-
  The reference's Add, Minus, Remove and Merge. Conditions: as each says.
-/
import Derived.Test.YtamghlneoglfnaaOrN2g
namespace Go.Proofs.Ytamghlneoglfnaa
open Go.RowKit

theorem bel_al_drew2 (w : World) (o : Obj) : Bel w.drew (w.alloc o).drew :=
  ⟨rfl, rfl, rfl, (bel_alloc w o).size, fun k hk => (bel_alloc w o).block k hk⟩
theorem sm_snoc {l : List AtomD} {a : AtomD} (h : SmA l) (ha : AtomSm a) : SmA (l ++ [a]) := fun x hx => by
  rcases List.mem_append.1 hx with h1 | h1
  · exact h x h1
  · rw [List.mem_singleton.1 h1]; exact ha
set_option maxRecDepth 20000 in
set_option maxHeartbeats 4000000 in
theorem rAdd_any (A : Option Addr) (l : List AtomD) (n ca : Nat) (hn : l.length = n) (a : AtomD) (w : World) (hL : AL w A ca l) (hl : l.length ≤ 50000) (hs : SmA l) (ha : AtomSm a) :
    Calls Try.prog 23 #[.slice A n ca, .agg #[.string a.says, .string a.pred, .int .i64 a.n, .bool a.t0.v, .string a.t0.name, .bool a.t1.v, .string a.t1.name, .bool a.t2.v, .string a.t2.name, .bool a.t3.v, .string a.t3.name]] w fun e w' => (∃ q c, RowKit.Hid (OA w w' q c (addD l a)) ∧ e = .returned (.tuple #[.slice q (addD l a).length c, .bool (!hasK l a)])) ∧ Bel w w' := by
  subst hn
  have HL := Lib.hid hL
  obtain ⟨r, hr⟩ : ∃ r, r = addD l a := ⟨_, rfl⟩
  obtain ⟨f, hf⟩ : ∃ f, f = hasK l a := ⟨_, rfl⟩
  obtain ⟨s, hs0⟩ : ∃ s, s = sortedD l := ⟨_, rfl⟩
  have hsl : s.length ≤ 50000 := by rw [hs0]; exact Nat.le_trans (sorted_lenA l) hl
  have HSS : RowKit.Hid (SmA s) := Lib.hid (by rw [hs0]; exact sm_sorted hs)
  have HT : RowKit.Hid (f = true → r = s) := Lib.hid (fun h => by rw [hr, hs0]; exact add_there (hf ▸ h))
  have HF : RowKit.Hid (sortedD (s ++ [a]) = r) := Lib.hid (by rw [hs0, hr]; exact add_sorted l a)
  have HSO := Lib.hid (fun W (hg : Bel w W) => rSorted_any A l l.length ca rfl W (HL.out.bel hg) (by omega) hs)
  have HHA := Lib.hid (fun q c W (h : AL W q c s) => rHas_any q s s.length c rfl a W h (by omega) HSS.out ha)
  have HS2 := Lib.hid (fun q c W (h : AL W q c (s ++ [a])) => rSorted_any q (s ++ [a]) (s.length + 1) c (by simp) W h (by simp; omega) (sm_snoc HSS.out ha))
  simp only [← hs0] at HSO
  simp only [show hasK s a = f by rw [hs0, sorted_hasK, hf]] at HHA
  simp only [HF.out] at HS2
  rw [← hr, ← hf]
  clear hr hf hs0 hL hs
  have hP := AtomAt.new w a
  have hb := bel_alloc w (.cells #[.string a.says, .string a.pred, .int .i64 a.n, .bool a.t0.v, .string a.t0.name, .bool a.t1.v, .string a.t1.name, .bool a.t2.v, .string a.t2.name, .bool a.t3.v, .string a.t3.name] 27)
  go_enter Try.func23, Try.ntmps23
  go_wp2_with (fail)
  refine (HSO.out _ hb).mono ?_
  rintro e w1 ⟨⟨q, c, HO, rfl⟩, hg⟩
  replace hP := hP.bel hg
  have HO1 : RowKit.Hid (OA w w1 q c s) := Lib.hid ⟨HO.out.row, hb.trans' hg, fun g h => by have := HO.out.new g h; have := hb.size; omega⟩
  replace hb := hb.trans' hg
  clear hg HO
  obtain ⟨c0, c1, c2, c3, c4, c5, c6, c7, c8, c9, c10⟩ := hP.cells
  go_wp2_with (fail)
  refine (HHA.out q c _ (al_own HO1.out)).mono ?_
  rintro e w2 ⟨rfl, hg⟩
  replace hP := hP.bel hg
  replace HO1 := Lib.hid (HO1.out.bel' hg)
  replace hb := hb.trans' hg
  clear hg c0 c1 c2 c3 c4 c5 c6 c7 c8 c9 c10
  obtain ⟨c0, c1, c2, c3, c4, c5, c6, c7, c8, c9, c10⟩ := hP.cells
  cases f
  · go_wp2_with (at_builtin; refine wpList_pushA rfl (.tmp 13) (.tmp 15) 29 Try.underlying29 rfl a rfl rfl HO1.out (by omega) ?_; intro q6 c6' w6 out6 HX6 HO6; obtain rfl : out6 = s ++ [a] := HX6.out)
    refine (HS2.out q6 c6' _ (al_own HO6.out)).mono ?_
    rintro e w7 ⟨⟨q7, c7', HO7, rfl⟩, hg⟩
    have HB6 : Bel w w6 := HO6.out.bel
    have HB7 := Lib.hid (HB6.trans' hg)
    have HO8 : RowKit.Hid (OA w w7 q7 c7' r) := Lib.hid ⟨HO7.out.row, HB7.out, fun g h => by have := HO7.out.new g h; have := HO6.out.bel.size; omega⟩
    go_wp2
    go_ret2
    exact ⟨⟨q7, c7', HO8, rfl⟩, HB7.out⟩
  · obtain rfl : r = s := HT.out rfl
    go_wp2
    go_ret2
    exact ⟨⟨q, c, HO1, rfl⟩, hb⟩
set_option maxRecDepth 20000 in
set_option maxHeartbeats 8000000 in
theorem rMinus_any (A : Option Addr) (l : List AtomD) (n ca : Nat) (hn : l.length = n) (B : Option Addr) (m : List AtomD) (nb cb : Nat) (hnb : m.length = nb) (w : World) (hL : AL w A ca l) (hl : l.length ≤ 100000) (hs : SmA l) (hM : AL w B cb m) (hm : m.length ≤ 100000) (hsm : SmA m) :
    Calls Try.prog 29 #[.slice A n ca, .slice B nb cb] w fun e w' => (∃ q c, RowKit.Hid (OA w w' q c (minusD l m)) ∧ e = .returned (.slice q (minusD l m).length c)) ∧ Bel w w' := by
  subst hn hnb
  have HM := Lib.hid hM
  have HSM := Lib.hid hsm
  obtain ⟨r, hr⟩ : ∃ r, r = minusD l m := ⟨_, rfl⟩
  obtain ⟨s, hs0⟩ : ∃ s, s = sortedD l := ⟨_, rfl⟩
  have hsl : s.length ≤ 100000 := by rw [hs0]; exact Nat.le_trans (sorted_lenA l) hl
  have HSX : RowKit.Hid (SmA s) := Lib.hid (by rw [hs0]; exact sm_sorted hs)
  have HR2 : RowKit.Hid (r = s.filter (fun a => !hasK m a)) := Lib.hid (by rw [hr, hs0]; rfl)
  have HSO := Lib.hid (rSorted_any A l l.length ca rfl w hL hl hs)
  simp only [← hs0] at HSO
  rw [← hr]
  clear hr hs0 hL hs hM hsm
  go_enter Try.func29, Try.ntmps29
  go_wp2_with (fail)
  refine HSO.out.mono ?_
  rintro e w2 ⟨⟨q, c, HO0, rfl⟩, hg⟩
  have HB := Lib.hid hg
  have HQ := Lib.hid (al_own HO0.out)
  have HMW := Lib.hid (HM.out.bel hg)
  clear hg HO0 HSO HM
  go_wp2
  go_loopw [5, 7] (fun s5 i wr => ∃ (k : Nat) (out : List AtomD) (q' : Option Addr) (c' : Nat), k ≤ s.length ∧ i = .int .i64 k ∧ s5 = .slice q' out.length c' ∧ out.length ≤ k ∧ RowKit.Hid (out = (s.take k).filter (fun a => !hasK m a)) ∧ RowKit.Hid (OA w2 wr q' c' out)) (fun _ i _ => s.length - (intOf i).toNat)
  case atStart => exact ⟨0, [], none, 0, Nat.zero_le _, rfl, rfl, Nat.le_refl _, Lib.hid rfl, Lib.hid (OA.nil w2 (Below.refl _ _))⟩
  case round =>
    obtain ⟨k, out, q', c', hk, rfl, rfl, hol, HE, HO⟩ := hrel
    have HW : RowKit.Hid (Bel w2 wr) := Lib.hid HO.out.bel
    by_cases hlt : k < s.length
    case neg =>
      obtain rfl : k = s.length := by omega
      have HX : RowKit.Hid (out = r) := Lib.hid (by rw [HR2.out, HE.out, List.take_length])
      obtain rfl : r = out := HX.out.symm
      go_wp2
      go_ret
      exact ⟨⟨q', c', Lib.hid ⟨HO.out.row, HB.out.trans' HW.out, fun g h => by have := HO.out.new g h; have := HB.out.size; omega⟩, rfl⟩, HB.out.trans' HW.out⟩
    obtain ⟨b, o, rfl⟩ := al_at HQ.out hlt
    have HCX := Lib.hid (al_later HQ.out hlt)
    have hq : (0 : Int) ≤ k := by omega
    have hq2 : (k : Int) < s.length := by omega
    have HX := Lib.hid (HSX.out _ (List.getElem_mem hlt))
    have HN := Lib.hid (minus_succ (m := m) hlt)
    generalize s[k] = x at HCX HX HN
    have HC := Lib.hid (fun W (hg : Bel w2 W) => rHas_any B m m.length cb rfl x W (HMW.out.bel hg) hm HSM.out HX.out)
    obtain ⟨c0, c1, c2, c3, c4, c5, c6, c7, c8, c9, c10⟩ := HCX.out wr HW.out
    cases hf : hasK m x <;> rw [hf] at HC
    · have HN2 : RowKit.Hid ((s.take (k + 1)).filter (fun a => !hasK m a) = out ++ [x]) := Lib.hid (by rw [HN.out, hf, ← HE.out]; rfl)
      clear hf
      go_wp2_with (fail)
      refine (HC.out _ HW.out).mono ?_
      rintro e w5 ⟨rfl, hg⟩
      have HO5 := Lib.hid (HO.out.bel' hg)
      clear c0 c1 c2 c3 c4 c5 c6 c7 c8 c9 c10
      obtain ⟨c0, c1, c2, c3, c4, c5, c6, c7, c8, c9, c10⟩ := HCX.out w5 (HW.out.trans' hg)
      clear hg
      go_wp2_with (at_builtin; refine wpList_pushA rfl (.tmp 23) (.tmp 28) 29 Try.underlying29 rfl x rfl rfl HO5.out (by omega) ?_; intro q6 c6' w6 out6 HX6 HO6)
      go_roundw
      case rel => exact ⟨k + 1, out6, q6, c6', by omega, by go_num, rfl, by rw [HX6.out]; simp; omega, Lib.hid (by rw [HX6.out, HN2.out]), HO6⟩
      case measure => simp [intOf]; omega
    · have HN2 : RowKit.Hid ((s.take (k + 1)).filter (fun a => !hasK m a) = out) := Lib.hid (by rw [HN.out, hf, ← HE.out]; simp)
      clear hf
      go_wp2_with (fail)
      refine (HC.out _ HW.out).mono ?_
      rintro e w5 ⟨rfl, hg⟩
      have HO5 := Lib.hid (HO.out.bel' hg)
      clear hg
      go_wp2
      go_roundw
      case rel => exact ⟨k + 1, out, q', c', by omega, by go_num, rfl, by omega, Lib.hid HN2.out.symm, HO5⟩
      case measure => simp [intOf]; omega
set_option maxRecDepth 20000 in
set_option maxHeartbeats 8000000 in
theorem rRemove_any (A : Option Addr) (l : List AtomD) (n ca : Nat) (hn : l.length = n) (a : AtomD) (w : World) (hL : AL w A ca l) (hl : l.length ≤ 100000) (hs : SmA l) (ha : AtomSm a) :
    Calls Try.prog 24 #[.slice A n ca, .agg #[.string a.says, .string a.pred, .int .i64 a.n, .bool a.t0.v, .string a.t0.name, .bool a.t1.v, .string a.t1.name, .bool a.t2.v, .string a.t2.name, .bool a.t3.v, .string a.t3.name]] w fun e w' => (∃ q c, RowKit.Hid (OA w w' q c (removeD l a)) ∧ e = .returned (.tuple #[.slice q (removeD l a).length c, .bool (hasK l a)])) ∧ Bel w w' := by
  subst hn
  have HL := Lib.hid hL
  obtain ⟨r, hr⟩ : ∃ r, r = removeD l a := ⟨_, rfl⟩
  obtain ⟨f, hf⟩ : ∃ f, f = hasK l a := ⟨_, rfl⟩
  have HMI := Lib.hid (fun q W (hg : Bel w W) (h : AL W q 1 [a]) => rMinus_any A l l.length ca rfl q [a] 1 1 rfl W (HL.out.bel hg) hl hs h (by simp) (fun x hx => by rw [List.mem_singleton.1 hx]; exact ha))
  have HHA := Lib.hid (fun W (hg : Bel w W) => rHas_any A l l.length ca rfl a W (HL.out.bel hg) hl hs ha)
  simp only [show minusD l [a] = r from hr.symm] at HMI
  simp only [← hf] at HHA
  rw [← hr, ← hf]
  clear hr hf hs hL
  have hb := bel_alloc w (.cells #[.string a.says, .string a.pred, .int .i64 a.n, .bool a.t0.v, .string a.t0.name, .bool a.t1.v, .string a.t1.name, .bool a.t2.v, .string a.t2.name, .bool a.t3.v, .string a.t3.name] 27)
  have hP := (AtomAt.new w a).drew
  have hb2 := bel_alloc (w.alloc (.cells #[.string a.says, .string a.pred, .int .i64 a.n, .bool a.t0.v, .string a.t0.name, .bool a.t1.v, .string a.t1.name, .bool a.t2.v, .string a.t2.name, .bool a.t3.v, .string a.t3.name] 27)) (.cells #[.string a.says, .string a.pred, .int .i64 a.n, .bool a.t0.v, .string a.t0.name, .bool a.t1.v, .string a.t1.name, .bool a.t2.v, .string a.t2.name, .bool a.t3.v, .string a.t3.name] 27)
  have hlit := SliceAt.lit EA (w.alloc (.cells #[.string a.says, .string a.pred, .int .i64 a.n, .bool a.t0.v, .string a.t0.name, .bool a.t1.v, .string a.t1.name, .bool a.t2.v, .string a.t2.name, .bool a.t3.v, .string a.t3.name] 27)) 27 [a] #[.string a.says, .string a.pred, .int .i64 a.n, .bool a.t0.v, .string a.t0.name, .bool a.t1.v, .string a.t1.name, .bool a.t2.v, .string a.t2.name, .bool a.t3.v, .string a.t3.name] rfl
  rw [show (w.alloc (.cells #[.string a.says, .string a.pred, .int .i64 a.n, .bool a.t0.v, .string a.t0.name, .bool a.t1.v, .string a.t1.name, .bool a.t2.v, .string a.t2.name, .bool a.t3.v, .string a.t3.name] 27)).heap.size = w.heap.size + 1 by simp] at hlit
  have hcur : Bel w _ := (hb.trans' hb2).trans' (bel_drew' (Below.refl _ _))
  have HLY := Lib.hid (hlit.bel (bel_drew' (Below.refl _ _)))
  have HPC := Lib.hid (((AtomAt.new w a).bel hb2).drew)
  obtain ⟨c0, c1, c2, c3, c4, c5, c6, c7, c8, c9, c10⟩ := hP.cells
  clear hb hb2 hlit
  go_enter Try.func24, Try.ntmps24
  go_wp2
  go_region_held3 (fun w' => (w'.cell? ⟨w.heap.size, 0, none⟩ = some (.string a.says) ∧ w'.cell? ⟨w.heap.size, 1, none⟩ = some (.string a.pred) ∧ w'.cell? ⟨w.heap.size, 2, none⟩ = some (.int .i64 a.n) ∧ w'.cell? ⟨w.heap.size, 3, none⟩ = some (.bool a.t0.v) ∧ w'.cell? ⟨w.heap.size, 4, none⟩ = some (.string a.t0.name) ∧ w'.cell? ⟨w.heap.size, 5, none⟩ = some (.bool a.t1.v) ∧ w'.cell? ⟨w.heap.size, 6, none⟩ = some (.string a.t1.name) ∧ w'.cell? ⟨w.heap.size, 7, none⟩ = some (.bool a.t2.v) ∧ w'.cell? ⟨w.heap.size, 8, none⟩ = some (.string a.t2.name) ∧ w'.cell? ⟨w.heap.size, 9, none⟩ = some (.bool a.t3.v) ∧ w'.cell? ⟨w.heap.size, 10, none⟩ = some (.string a.t3.name))) (first | exact hP.cells | exact HPC.out.cells | go_keep | trivial)
    (first | (go_at_call 27; refine (HHA.out _ hcur).mono ?_; rintro e w9 ⟨rfl, hg⟩; replace hcur := hcur.trans' hg; replace HPC := Lib.hid (HPC.out.bel hg); (try replace HLY := Lib.hid (HLY.out.bel hg)); (try replace HO := Lib.hid (HO.out.bel' hg)); clear hg) | (go_at_call 29; refine (HMI.out _ _ hcur HLY.out).mono ?_; rintro e w9 ⟨⟨q, c, HO0, rfl⟩, hg⟩; have HO : RowKit.Hid (OA w w9 q c r) := Lib.hid ⟨HO0.out.row, hcur.trans' hg, fun g h => by have := HO0.out.new g h; have := hcur.size; omega⟩; replace hcur := hcur.trans' hg; replace HPC := Lib.hid (HPC.out.bel hg); clear hg HO0 HLY))
  all_goals go_wp2
  all_goals go_ret2
  all_goals exact ⟨⟨q, c, HO, rfl⟩, hcur⟩
set_option maxRecDepth 20000 in
set_option maxHeartbeats 4000000 in
theorem rMerge_any (A : Option Addr) (vs : List SlV) (L : List (List AtomD)) (n ca : Nat) (hn : vs.length = n) (w : World) (hL : LV w A ca vs L) (hl : L.flatten.length ≤ 100000) (hl2 : n ≤ 1000) (hs : SmA L.flatten) :
    Calls Try.prog 28 #[.slice A n ca] w fun e w' => (∃ q c, RowKit.Hid (OA w w' q c (sortedD L.flatten)) ∧ e = .returned (.slice q (sortedD L.flatten).length c)) ∧ Bel w w' := by
  subst hn
  have HL := Lib.hid hL
  have HLN := Lib.hid hL.len
  clear hL
  have HFL := Lib.hid (flat_part_le L)
  have HS := Lib.hid hs
  obtain ⟨tot, htot⟩ : ∃ t, t = L.flatten := ⟨_, rfl⟩
  have HT := Lib.hid htot
  rw [← htot] at hl ⊢
  clear htot hs
  go_enter Try.func28, Try.ntmps28
  go_wp2
  go_loopw [3, 4] (fun s6 i wr => ∃ (k t : Nat) (q : Option Addr) (c : Nat), k ≤ vs.length ∧ i = .int .i64 k ∧ s6 = .slice q t c ∧ t ≤ tot.length ∧ RowKit.Hid (t = ((L.take k).flatten).length) ∧ RowKit.Hid (OA w wr q c ((L.take k).flatten)) ∧ RowKit.Hid (Bel w wr)) (fun _ i _ => vs.length - (intOf i).toNat)
  case atStart => exact ⟨0, 0, none, 0, Nat.zero_le _, rfl, rfl, Nat.zero_le _, Lib.hid rfl, Lib.hid (OA.nil w (Below.refl _ _)), Lib.hid (Below.refl _ _)⟩
  case round =>
    obtain ⟨k, t, q, c, hk, rfl, rfl, htt, HK, HO, HB⟩ := hrel
    by_cases hlt : k < vs.length
    · obtain ⟨b, o, rfl, hc⟩ := lv_at HL.out hlt
      have c0 := hc _ HB.out
      have hq : (0 : Int) ≤ k := by omega
      have hq2 : (k : Int) < vs.length := by omega
      have hkL : k < L.length := by rw [← HLN.out]; exact hlt
      have hlen := (HL.out.each k hlt hkL).1
      have HAL := Lib.hid ((HL.out.bel HB.out).each k hlt hkL).2
      have HS2 : RowKit.Hid (((L.take (k + 1)).flatten).length = t + vs[k].2.1) := Lib.hid (by rw [flat_take_succ hkL, List.length_append, hlen, HK.out])
      have HF : RowKit.Hid ((L.take (k + 1)).flatten = (L.take k).flatten ++ L[k]) := Lib.hid (flat_take_succ hkL)
      have hle : t + vs[k].2.1 ≤ tot.length := by rw [← HS2.out, HT.out]; exact HFL.out _
      have HLK := Lib.hid hlen
      clear hc hlen
      generalize vs[k] = v at c0 HS2 hle HAL HLK
      obtain ⟨vA, vn, vc⟩ := v
      simp only at c0 HS2 hle HAL HLK
      go_wp2_with (at_builtin; refine wpList_catA rfl (.tmp 11) (.tmp 15) rfl rfl rfl HO.out HK.out.symm HAL.out HLK.out (by omega) ?_; intro q5 c5 w5 HO5)
      go_roundw
      case rel => exact ⟨k + 1, t + vn, q5, c5, by omega, by go_num, rfl, hle, Lib.hid HS2.out.symm, Lib.hid (by rw [HF.out]; exact HO5.out), Lib.hid HO5.out.bel⟩
      case measure => simp [intOf]; omega
    · obtain rfl : k = vs.length := by omega
      have HE : RowKit.Hid (OA w wr q c tot) := Lib.hid (by have := HO.out; rwa [HLN.out, List.take_length, ← HT.out] at this)
      have HE2 : RowKit.Hid (tot.length = t) := Lib.hid (by have := HK.out; rw [HLN.out, List.take_length, ← HT.out] at this; exact this.symm)
      have HSX : RowKit.Hid (SmA tot) := Lib.hid (by rw [HT.out]; exact HS.out)
      clear HO HK
      go_wp2_with (fail)
      refine (rSorted_any q tot t c HE2.out _ (OwnL.slice EA HE.out) hl HSX.out).mono ?_
      rintro e w2 ⟨⟨q2, c2, HO2, rfl⟩, hg⟩
      go_wp2
      go_ret
      exact ⟨⟨q2, c2, Lib.hid ⟨HO2.out.row, HB.out.trans' hg, fun g h => by have := HO2.out.new g h; have := HB.out.size; omega⟩, rfl⟩, HB.out.trans' hg⟩
end Go.Proofs.Ytamghlneoglfnaa
