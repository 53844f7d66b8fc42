/-
  The law OrderSorts for every input. Conditions: what came in lies as its parameters' types say.
-/
import Derived.Test.YtamghlneoglfnaaOrS
import Derived.Test.YtamghlneoglfnaaOrL
import Derived.Test.YtamghlneoglfnaaOrM
import Derived.Deep.QuietTactic
import Derived.BigQuiet
namespace Go.Proofs.Ytamghlneoglfnaa
open Go.RowKit

theorem add_has (l : List AtomD) (a : AtomD) : hasK (addD l a) a = true := by
  unfold addD
  rw [sorted_hasK]
  exact hasK_iff.2 ⟨a, by simp, rfl⟩
theorem out_has (l : List AtomD) (a : AtomD) : hasK (removeD l a) a = false := by
  unfold removeD
  rw [minus_has, show hasK [a] a = true from hasK_one.2 rfl]; simp
theorem find_there {s : List AtomD} {a : AtomD} (hA : AscA s) (h : hasK s a = true) : ∃ i, FindD s (textD a) i true := by
  obtain ⟨y, hy, e⟩ := hasK_iff.1 h
  obtain ⟨i, hi, rfl⟩ := List.getElem_of_mem hy
  refine ⟨i, by omega, fun _ => ⟨hi, e⟩, fun _ => ⟨fun j hj hlt => ?_, fun j hj hle => ?_, fun h => by cases h⟩⟩
  · have := List.pairwise_iff_getElem.1 hA j i hj hi hlt
    unfold ltA at this
    rwa [e] at this
  · rcases Nat.eq_or_lt_of_le hle with rfl | hlt
    · rw [e]; exact ltS_irr _
    · have := List.pairwise_iff_getElem.1 hA i j hi hj hlt
      unfold ltA at this
      rw [e] at this
      exact ltS_asymm this
theorem out_len {l : List AtomD} {a : AtomD} (hA : AscA l) (h : hasK l a = true) : (removeD l a).length + 1 = l.length := by
  obtain ⟨i, hi⟩ := find_there hA h
  have hs := sorted_id hA
  rw [← hs] at hi
  obtain ⟨e, _, hlt⟩ := find_remove hi
  rw [hs] at e hlt
  rw [← e, List.length_append, List.length_take, List.length_drop]; omega
theorem add_asc (l : List AtomD) (a : AtomD) : AscA (addD l a) := sorted_ascA _
theorem out_add {s : List AtomD} {a : AtomD} (hA : AscA s) (h : hasK s a = false) : removeD (addD s a) a = s := by
  refine asc_first (minus_asc _ _) hA fun k => ?_
  unfold removeD
  rw [minus_first]
  unfold addD
  rw [sorted_first, firstK_app, firstK_cons, firstK_nil]
  by_cases e : textD a = k
  · have hn : firstK s k = none := firstK_none.2 (fun y hy e2 => by rw [hasK_iff.2 ⟨y, hy, e2.trans e.symm⟩] at h; cases h)
    rw [hn, if_pos e]
    simp [Option.filter, show hasK [a] a = true from hasK_one.2 rfl]
  · rw [if_neg e, Option.or_none]
    cases q : firstK s k with
    | none => rfl
    | some x =>
      have hx := firstK_text q
      simp only [Option.filter, not_one (fun e2 => e (e2.trans hx)), if_true]
theorem add_len (l : List AtomD) (a : AtomD) : (addD l a).length ≤ l.length + 1 := by
  have := sorted_lenA (l ++ [a])
  unfold addD
  simp at this; omega
theorem any_succ {l : List AtomD} {y : AtomD} {k : Nat} (h : k < l.length) : (l.take (k + 1)).any (fun x => eqA x y) = ((l.take k).any (fun x => eqA x y) || eqA l[k] y) := by
  rw [List.take_add_one, List.getElem?_eq_getElem h, Option.toList_some, List.any_append]; simp
theorem any_in {l : List AtomD} {y : AtomD} (h : y ∈ l) : l.any (fun x => eqA x y) = true := List.any_eq_true.2 ⟨y, h, eqA_self y⟩
theorem sm_add {l : List AtomD} {a : AtomD} (h : SmA l) (ha : AtomSm a) : SmA (addD l a) := fun x hx => by
  have := sorted_memA hx
  rcases List.mem_append.1 this with h1 | h1
  · exact h x h1
  · rw [List.mem_singleton.1 h1]; exact ha
theorem sm_out {l : List AtomD} {a : AtomD} (h : SmA l) : SmA (removeD l a) := fun x hx => h x (sorted_memA (List.mem_filter.1 hx).1)
set_option maxRecDepth 20000 in
set_option maxHeartbeats 16000000 in
theorem lawOrderSorts (A : Option Addr) (l : List AtomD) (ca : Nat) (a : AtomD) (w : World) (hL : AL w A ca l) (hlk : ∀ x ∈ l, AtomOk x) (hll : l.length ≤ 9223372036854775807) (hak : AtomOk a) :
    Calls Try.prog 5 #[.slice A l.length ca, .agg #[.string a.says, .string a.pred, .int .i64 a.n, .bool a.t0.v, .string a.t0.name, .bool a.t1.v, .string a.t1.name, .bool a.t2.v, .string a.t2.name, .bool a.t3.v, .string a.t3.name]] w fun e w' => e = .returned (.bool true) ∧ Bel w w' := by
  have hP := AtomAt.new w a
  have hb := bel_alloc w (.cells #[.string a.says, .string a.pred, .int .i64 a.n, .bool a.t0.v, .string a.t0.name, .bool a.t1.v, .string a.t1.name, .bool a.t2.v, .string a.t2.name, .bool a.t3.v, .string a.t3.name] 27)
  have HL := Lib.hid hL
  have HLK := Lib.hid hlk
  have hLl := Lib.hid (fun W (hg : Bel w W) => lightAs_any A l ca 40 W (HL.out.bel hg) hll HLK.out)
  have hLa := Lib.hid (fun W => light_any a W hak)
  have hKa := Lib.hid (fun W => rCheck_any a W hak)
  clear hL hlk hll hak
  cases q0 : lightAs l 40
  case false =>
    rw [q0] at hLl
    clear q0
    go_enter Try.func5, Try.ntmps5
    go_wp2_with (fail)
    refine (lives8_any _).mono ?_
    rintro e w1 ⟨rfl, hg⟩
    replace hP := hP.bel hg
    replace hb := hb.trans' hg
    clear hg
    go_wp2_with (fail)
    refine (hLl.out _ hb).mono ?_
    rintro e w2 ⟨rfl, hg⟩
    replace hP := hP.bel hg
    replace hb := hb.trans' hg
    clear hg
    go_wp2
    go_ret
    exact ⟨rfl, hb⟩
  rw [q0] at hLl
  cases q1 : lightA a
  case false =>
    rw [q1] at hLa
    clear q0 q1
    go_enter Try.func5, Try.ntmps5
    go_wp2_with (fail)
    refine (lives8_any _).mono ?_
    rintro e w1 ⟨rfl, hg⟩
    replace hP := hP.bel hg
    replace hb := hb.trans' hg
    clear hg
    go_wp2_with (fail)
    refine (hLl.out _ hb).mono ?_
    rintro e w2 ⟨rfl, hg⟩
    replace hP := hP.bel hg
    replace hb := hb.trans' hg
    clear hg
    obtain ⟨c0, c1, c2, c3, c4, c5, c6, c7, c8, c9, c10⟩ := hP.cells
    go_wp2_with (fail)
    refine (hLa.out _).mono ?_
    rintro e w3 ⟨rfl, hg⟩
    replace hP := hP.bel hg
    replace hb := hb.trans' hg
    clear hg
    clear c0 c1 c2 c3 c4 c5 c6 c7 c8 c9 c10
    go_wp2
    go_ret
    exact ⟨rfl, hb⟩
  rw [q1] at hLa
  by_cases q2 : checkD a = 0
  case neg =>
    have hz : (checkD a != 0) = true := by simpa using q2
    have hz2 : (checkD a == 0) = false := by simpa using q2
    clear q0 q1 q2
    go_enter Try.func5, Try.ntmps5
    go_wp2_with (fail)
    refine (lives8_any _).mono ?_
    rintro e w1 ⟨rfl, hg⟩
    replace hP := hP.bel hg
    replace hb := hb.trans' hg
    clear hg
    go_wp2_with (fail)
    refine (hLl.out _ hb).mono ?_
    rintro e w2 ⟨rfl, hg⟩
    replace hP := hP.bel hg
    replace hb := hb.trans' hg
    clear hg
    obtain ⟨c0, c1, c2, c3, c4, c5, c6, c7, c8, c9, c10⟩ := hP.cells
    go_wp2_with (fail)
    refine (hLa.out _).mono ?_
    rintro e w3 ⟨rfl, hg⟩
    replace hP := hP.bel hg
    replace hb := hb.trans' hg
    clear hg
    clear c0 c1 c2 c3 c4 c5 c6 c7 c8 c9 c10
    obtain ⟨c0, c1, c2, c3, c4, c5, c6, c7, c8, c9, c10⟩ := hP.cells
    go_wp2_with (fail)
    refine (hKa.out _).mono ?_
    rintro e w4 ⟨rfl, hg⟩
    replace hP := hP.bel hg
    replace hb := hb.trans' hg
    clear hg
    clear c0 c1 c2 c3 c4 c5 c6 c7 c8 c9 c10
    go_wp2
    go_ret
    exact ⟨rfl, hb⟩
  rw [q2] at hKa
  obtain ⟨h40, hlt⟩ := light_each q0
  have sa := AtomOk.sm q1
  have HSM : RowKit.Hid (SmA l) := Lib.hid (fun x hx => AtomOk.sm (hlt x hx))
  have hl40 : l.length ≤ 40 := by omega
  clear q0 q1 q2 hlt h40
  go_enter Try.func5, Try.ntmps5
  go_wp2_with (fail)
  refine (lives8_any _).mono ?_
  rintro e w1 ⟨rfl, hg⟩
  replace hP := hP.bel hg
  replace hb := hb.trans' hg
  clear hg
  go_wp2_with (fail)
  refine (hLl.out _ hb).mono ?_
  rintro e w2 ⟨rfl, hg⟩
  replace hP := hP.bel hg
  replace hb := hb.trans' hg
  clear hg
  obtain ⟨c0, c1, c2, c3, c4, c5, c6, c7, c8, c9, c10⟩ := hP.cells
  go_wp2_with (fail)
  refine (hLa.out _).mono ?_
  rintro e w3 ⟨rfl, hg⟩
  replace hP := hP.bel hg
  replace hb := hb.trans' hg
  clear hg
  clear c0 c1 c2 c3 c4 c5 c6 c7 c8 c9 c10
  obtain ⟨c0, c1, c2, c3, c4, c5, c6, c7, c8, c9, c10⟩ := hP.cells
  go_wp2_with (fail)
  refine (hKa.out _).mono ?_
  rintro e w4 ⟨rfl, hg⟩
  replace hP := hP.bel hg
  replace hb := hb.trans' hg
  clear hg
  clear c0 c1 c2 c3 c4 c5 c6 c7 c8 c9 c10
  have HB := Lib.hid hb
  have HP := Lib.hid hP
  clear hb hP hLl hLa hKa
  go_wp2
  go_loopw [5] (fun i wr => ∃ k : Nat, k ≤ l.length ∧ i = .int .i64 k ∧ RowKit.Hid (Bel w4 wr)) (fun i _ => l.length - (intOf i).toNat)
  case atStart => exact ⟨0, Nat.zero_le _, rfl, Lib.hid (Below.refl _ _)⟩
  case round =>
    obtain ⟨k, hk, rfl, HR⟩ := hrel
    by_cases hlt : k < l.length
    · obtain ⟨b, o, rfl, hbb, hc⟩ := al_get (HL.out.bel (HB.out.trans' HR.out)) (by omega)
      obtain ⟨c0, c1, c2, c3, c4, c5, c6, c7, c8, c9, c10⟩ := hc k hlt
      have hq : (0 : Int) ≤ k := by omega
      have hq2 : (k : Int) < l.length := by omega
      have HX := Lib.hid (HLK.out _ (List.getElem_mem hlt))
      clear hc hbb
      generalize l[k] = x at c0 c1 c2 c3 c4 c5 c6 c7 c8 c9 c10 HX
      have HKX := Lib.hid (fun W => rCheck_any x W HX.out)
      by_cases q2 : checkD x = 0
      · rw [q2] at HKX
        clear q2
        go_wp2_with (fail)
        refine (HKX.out _).mono ?_
        rintro e w5 ⟨rfl, hg⟩
        have HR2 := Lib.hid (HR.out.trans' hg)
        clear hg
        go_wp2
        go_roundw
        case rel => exact ⟨k + 1, by omega, by go_num, HR2⟩
        case measure => simp [intOf]; omega
      · have hz : (checkD x != 0) = true := by simpa using q2
        have hz2 : (checkD x == 0) = false := by simpa using q2
        clear q2
        go_wp2_with (fail)
        refine (HKX.out _).mono ?_
        rintro e w5 ⟨rfl, hg⟩
        have HR2 := Lib.hid (HB.out.trans' (HR.out.trans' hg))
        clear hg
        go_wp2
        go_ret
        exact ⟨rfl, HR2.out⟩
    obtain rfl : k = l.length := by omega
    clear hlt hk
    have HB4 := Lib.hid (HB.out.trans' HR.out)
    have HP4 := Lib.hid (HP.out.bel HR.out)
    clear HB HP HR
    obtain ⟨s, hs⟩ : ∃ s, s = sortedD l := ⟨_, rfl⟩
    have HS := Lib.hid hs
    have hsl : s.length ≤ l.length := by rw [hs]; exact sorted_lenA l
    have HSA : RowKit.Hid (AscA s) := Lib.hid (by rw [hs]; exact sorted_ascA l)
    have HSS : RowKit.Hid (SmA s) := Lib.hid (by rw [hs]; exact sm_sorted HSM.out)
    clear hs
    go_wp2_with (fail)
    refine (ownA_any A l l.length ca rfl _ (HL.out.bel HB4.out) (by omega)).mono ?_
    rintro e w5 ⟨⟨qo, co, HO5, rfl⟩, hg⟩
    replace HB4 := Lib.hid (HB4.out.trans' hg)
    replace HP4 := Lib.hid (HP4.out.bel hg)
    clear hg
    go_wp2_with (fail)
    refine (Sorted_any qo l l.length co rfl _ (al_own HO5.out) (by omega) HSM.out).mono ?_
    rw [← HS.out]
    rintro e w6 ⟨⟨qs, cs, HO6, rfl⟩, hg⟩
    replace HB4 := Lib.hid (HB4.out.trans' hg)
    replace HP4 := Lib.hid (HP4.out.bel hg)
    have HSL := Lib.hid (al_own HO6.out)
    clear hg HO5 HO6
    have hI := Lib.hid (Is_any qs s s.length cs rfl w6 HSL.out (by omega) HSS.out)
    rw [isD_yes HSA.out] at hI
    go_wp2_with (fail)
    refine hI.out.mono ?_
    rintro e w7 ⟨rfl, hg⟩
    have HB7 := Lib.hid (HB4.out.trans' hg)
    have HP7 := Lib.hid (HP4.out.bel hg)
    replace HSL := Lib.hid (HSL.out.bel hg)
    have hng : ¬ l.length < s.length := by omega
    have hng2 : decide (l.length < s.length) = false := decide_eq_false (by omega)
    clear hg hI HB4 HP4
    have HLW := Lib.hid (HL.out.bel HB7.out)
    clear HL
    go_wp2
    go_loopw [7] (fun i wr => ∃ k : Nat, k ≤ l.length ∧ i = .int .i64 k ∧ RowKit.Hid (Bel w7 wr)) (fun i _ => l.length - (intOf i).toNat)
    case atStart => exact ⟨0, Nat.zero_le _, rfl, Lib.hid (Below.refl _ _)⟩
    case round =>
      obtain ⟨k, hk, rfl, HR⟩ := hrel
      by_cases hlt : k < l.length
      · obtain ⟨b, o, rfl, hbb, hc⟩ := al_get (HLW.out.bel HR.out) (by omega)
        obtain ⟨c0, c1, c2, c3, c4, c5, c6, c7, c8, c9, c10⟩ := hc k hlt
        have hq : (0 : Int) ≤ k := by omega
        have hq2 : (k : Int) < l.length := by omega
        have HX := Lib.hid (HSM.out _ (List.getElem_mem hlt))
        have HH : RowKit.Hid (hasK s l[k] = true) := Lib.hid (by rw [HS.out, sorted_hasK]; exact hasK_iff.2 ⟨_, List.getElem_mem hlt, rfl⟩)
        clear hc hbb
        generalize l[k] = x at c0 c1 c2 c3 c4 c5 c6 c7 c8 c9 c10 HX HH
        go_wp2_with (fail)
        refine (Has_any qs s s.length cs rfl x _ (HSL.out.bel HR.out) (by omega) HSS.out HX.out).mono ?_
        rw [HH.out]
        rintro e w8 ⟨rfl, hg⟩
        have HR2 := Lib.hid (HR.out.trans' hg)
        clear hg
        go_wp2
        go_roundw
        case rel => exact ⟨k + 1, by omega, by go_num, HR2⟩
        case measure => simp [intOf]; omega
      obtain rfl : k = l.length := by omega
      clear hlt hk
      have HB8 := Lib.hid (HB7.out.trans' HR.out)
      have HP8 := Lib.hid (HP7.out.bel HR.out)
      have HSL8 := Lib.hid (HSL.out.bel HR.out)
      have HL8 := Lib.hid (HLW.out.bel HR.out)
      clear HB7 HP7 HSL HLW HR
      go_wp2
      generalize wr = w8 at HB8 HP8 HSL8 HL8
      go_loopw [8] (fun i wr => ∃ k : Nat, k ≤ s.length ∧ i = .int .i64 k ∧ RowKit.Hid (Bel w8 wr)) (fun i _ => s.length - (intOf i).toNat)
      case atStart => exact ⟨0, Nat.zero_le _, rfl, Lib.hid (Below.refl _ _)⟩
      case round =>
        obtain ⟨k, hk, rfl, HR⟩ := hrel
        by_cases hlt : k < s.length
        case neg =>
          obtain rfl : k = s.length := by omega
          clear hlt hk
          have HB9 := Lib.hid (HB8.out.trans' HR.out)
          have HP9 := Lib.hid (HP8.out.bel HR.out)
          have HS9 := Lib.hid (HSL8.out.bel HR.out)
          clear HB8 HP8 HSL8 HL8 HR HLK
          obtain ⟨bL, hbL⟩ : ∃ b, b = addD s a := ⟨_, rfl⟩
          obtain ⟨cL, hcL⟩ : ∃ c, c = removeD bL a := ⟨_, rfl⟩
          have HBL := Lib.hid hbL
          have HCL := Lib.hid hcL
          have hbl : bL.length ≤ 41 := by have := add_len s a; rw [hbL]; omega
          have HBA : RowKit.Hid (AscA bL) := Lib.hid (by rw [hbL]; exact add_asc _ _)
          have HBH : RowKit.Hid (hasK bL a = true) := Lib.hid (by rw [hbL]; exact add_has _ _)
          have HCH : RowKit.Hid (hasK cL a = false) := Lib.hid (by rw [hcL]; exact out_has _ _)
          have hcl : cL.length + 1 = bL.length := by rw [hcL]; exact out_len HBA.out HBH.out
          have HBS : RowKit.Hid (SmA bL) := Lib.hid (by rw [hbL]; exact sm_add HSS.out sa)
          have HCS : RowKit.Hid (SmA cL) := Lib.hid (by rw [hcL]; exact sm_out HBS.out)
          have HWT : RowKit.Hid (hasK s a = true → bL = s) := Lib.hid (fun h => by rw [hbL, add_there h, sorted_id HSA.out])
          have HWF : RowKit.Hid (hasK s a = false → cL = s) := Lib.hid (fun h => by rw [hcL, hbL, out_add HSA.out h])
          have HAD := Lib.hid (fun q c W (h : AL W q c s) => Add_any q s s.length c rfl a W h (by omega) HSS.out sa)
          have HRE := Lib.hid (fun q c W (h : AL W q c bL) => Remove_any q bL bL.length c rfl a W h (by omega) HBS.out sa)
          have HIB := Lib.hid (fun q c W (h : AL W q c bL) => Is_any q bL bL.length c rfl W h (by omega) HBS.out)
          have HH1 := Lib.hid (fun W (h : AL W qs cs s) => Has_any qs s s.length cs rfl a W h (by omega) HSS.out sa)
          have HH2 := Lib.hid (fun q c W (h : AL W q c bL) => Has_any q bL bL.length c rfl a W h (by omega) HBS.out sa)
          have HH3 := Lib.hid (fun q c W (h : AL W q c cL) => Has_any q cL cL.length c rfl a W h (by omega) HCS.out sa)
          simp only [← hbL] at HAD
          simp only [← hcL, HBH.out] at HRE
          simp only [isD_yes HBA.out] at HIB
          simp only [HBH.out] at HH2
          simp only [HCH.out] at HH3
          have hw : IntKind.i64.wrap ((bL.length : Int) - 1) = cL.length := (IntWalk.i64_in _ (by omega)).trans (by omega)
          have hcc : ((cL.length : Int) == (cL.length : Int)) = true := by simp
          clear hbL hcL HBL HCL HBS HCS HBA HBH HCH hcl
          obtain ⟨f, hf⟩ : ∃ f, f = hasK s a := ⟨_, rfl⟩
          rw [← hf] at HWT HWF
          simp only [← hf] at HAD HH1
          clear hf
          obtain ⟨c0, c1, c2, c3, c4, c5, c6, c7, c8, c9, c10⟩ := HP9.out.cells
          go_wp2_with (fail)
          refine (HH1.out _ HS9.out).mono ?_
          rintro e wA ⟨rfl, hg⟩
          clear c0 c1 c2 c3 c4 c5 c6 c7 c8 c9 c10
          have hb := HB9.out.trans' hg
          have hP := HP9.out.bel hg
          have hS := HS9.out.bel hg
          clear hg HB9 HP9 HS9 HH1
          replace hP := hP.drew
          obtain ⟨c0, c1, c2, c3, c4, c5, c6, c7, c8, c9, c10⟩ := hP.cells
          have HB := Lib.hid hb
          have HS9 := Lib.hid hS
          have hd := bel_drew' (Below.refl wA.heap.size wA)
          clear hb hS
          go_wp2
          go_region_held3 (fun w' => (w'.cell? ⟨w.heap.size, 0, none⟩ = some (.string a.says) ∧ w'.cell? ⟨w.heap.size, 1, none⟩ = some (.string a.pred) ∧ w'.cell? ⟨w.heap.size, 2, none⟩ = some (.int .i64 a.n) ∧ w'.cell? ⟨w.heap.size, 3, none⟩ = some (.bool a.t0.v) ∧ w'.cell? ⟨w.heap.size, 4, none⟩ = some (.string a.t0.name) ∧ w'.cell? ⟨w.heap.size, 5, none⟩ = some (.bool a.t1.v) ∧ w'.cell? ⟨w.heap.size, 6, none⟩ = some (.string a.t1.name) ∧ w'.cell? ⟨w.heap.size, 7, none⟩ = some (.bool a.t2.v) ∧ w'.cell? ⟨w.heap.size, 8, none⟩ = some (.string a.t2.name) ∧ w'.cell? ⟨w.heap.size, 9, none⟩ = some (.bool a.t3.v) ∧ w'.cell? ⟨w.heap.size, 10, none⟩ = some (.string a.t3.name))) (first | exact hP.cells | go_keep | trivial)
            (first | (go_at_call 22; refine (ownA_any qs s s.length cs rfl _ (HS9.out.bel hd) (by omega)).mono ?_; rintro e wB ⟨⟨qo2, co2, HO2, rfl⟩, hg⟩; replace hP := hP.bel hg; replace hd := hd.trans' hg; clear hg) | (go_at_call 11; refine (HAD.out qo2 co2 _ (al_own HO2.out)).mono ?_; rintro e wC ⟨⟨qb, cb, HOb, rfl⟩, hg⟩; replace hP := hP.bel hg; replace hd := hd.trans' hg; clear hg))
          all_goals
            have HB2 := Lib.hid (HB.out.trans' hd)
            have HS2 := Lib.hid (HS9.out.bel hd)
            have HBO := Lib.hid (al_own HOb.out)
            clear HB HS9 hd HO2 HOb HAD c0 c1 c2 c3 c4 c5 c6 c7 c8 c9 c10
            replace hP := hP.drew
            obtain ⟨c0, c1, c2, c3, c4, c5, c6, c7, c8, c9, c10⟩ := hP.cells
            have hd := bel_drew' (Below.refl wC.heap.size wC)
            go_wp2
            go_region_held3 (fun w' => (w'.cell? ⟨w.heap.size, 0, none⟩ = some (.string a.says) ∧ w'.cell? ⟨w.heap.size, 1, none⟩ = some (.string a.pred) ∧ w'.cell? ⟨w.heap.size, 2, none⟩ = some (.int .i64 a.n) ∧ w'.cell? ⟨w.heap.size, 3, none⟩ = some (.bool a.t0.v) ∧ w'.cell? ⟨w.heap.size, 4, none⟩ = some (.string a.t0.name) ∧ w'.cell? ⟨w.heap.size, 5, none⟩ = some (.bool a.t1.v) ∧ w'.cell? ⟨w.heap.size, 6, none⟩ = some (.string a.t1.name) ∧ w'.cell? ⟨w.heap.size, 7, none⟩ = some (.bool a.t2.v) ∧ w'.cell? ⟨w.heap.size, 8, none⟩ = some (.string a.t2.name) ∧ w'.cell? ⟨w.heap.size, 9, none⟩ = some (.bool a.t3.v) ∧ w'.cell? ⟨w.heap.size, 10, none⟩ = some (.string a.t3.name))) (first | exact hP.cells | go_keep | trivial)
              (first | (go_at_call 22; refine (ownA_any qb bL bL.length cb rfl _ (HBO.out.bel hd) (by omega)).mono ?_; rintro e wD ⟨⟨qo3, co3, HO3, rfl⟩, hg⟩; replace hP := hP.bel hg; replace hd := hd.trans' hg; clear hg) | (go_at_call 12; refine (HRE.out qo3 co3 _ (al_own HO3.out)).mono ?_; rintro e wE ⟨⟨qc, cc, HOc, rfl⟩, hg⟩; replace hP := hP.bel hg; replace hd := hd.trans' hg; clear hg))
            all_goals
              have HB3 := Lib.hid (HB2.out.trans' hd)
              have HS3 := Lib.hid (HS2.out.bel hd)
              have HBO3 := Lib.hid (HBO.out.bel hd)
              have HCO3 := Lib.hid (al_own HOc.out)
              have HP3 := Lib.hid hP
              clear HB2 HS2 HBO hd HO3 HOc HRE hP c0 c1 c2 c3 c4 c5 c6 c7 c8 c9 c10
              cases f
              · obtain rfl : cL = s := HWF.out rfl
                clear HWT HWF
                go_wp2_with (fail)
                refine (HIB.out qb cb _ HBO3.out).mono ?_
                rintro e wF ⟨rfl, hg⟩
                have HD := Lib.hid hg
                clear hg HIB
                obtain ⟨c0, c1, c2, c3, c4, c5, c6, c7, c8, c9, c10⟩ := (HP3.out.bel HD.out).cells
                go_wp2_with (fail)
                refine (HH2.out qb cb _ (HBO3.out.bel HD.out)).mono ?_
                rintro e wG ⟨rfl, hg⟩
                replace HD := Lib.hid (HD.out.trans' hg)
                clear hg HH2 c0 c1 c2 c3 c4 c5 c6 c7 c8 c9 c10
                obtain ⟨c0, c1, c2, c3, c4, c5, c6, c7, c8, c9, c10⟩ := (HP3.out.bel HD.out).cells
                go_wp2_with (fail)
                refine (HH3.out qc cc _ (HCO3.out.bel HD.out)).mono ?_
                rintro e wH ⟨rfl, hg⟩
                replace HD := Lib.hid (HD.out.trans' hg)
                clear hg HH3 c0 c1 c2 c3 c4 c5 c6 c7 c8 c9 c10
                go_wp2_with (fail)
                refine (sameA_any qc cL cL.length cc rfl qs cL.length cs rfl _ (HCO3.out.bel HD.out) (HS3.out.bel HD.out) (by omega)).mono ?_
                rintro e wI ⟨rfl, hg⟩
                go_wp2
                go_ret
                exact ⟨rfl, HB3.out.trans' (HD.out.trans' hg)⟩
              · obtain rfl : bL = s := HWT.out rfl
                clear HWT HWF
                go_wp2_with (fail)
                refine (HIB.out qb cb _ HBO3.out).mono ?_
                rintro e wF ⟨rfl, hg⟩
                have HD := Lib.hid hg
                clear hg HIB
                obtain ⟨c0, c1, c2, c3, c4, c5, c6, c7, c8, c9, c10⟩ := (HP3.out.bel HD.out).cells
                go_wp2_with (fail)
                refine (HH2.out qb cb _ (HBO3.out.bel HD.out)).mono ?_
                rintro e wG ⟨rfl, hg⟩
                replace HD := Lib.hid (HD.out.trans' hg)
                clear hg HH2 c0 c1 c2 c3 c4 c5 c6 c7 c8 c9 c10
                obtain ⟨c0, c1, c2, c3, c4, c5, c6, c7, c8, c9, c10⟩ := (HP3.out.bel HD.out).cells
                go_wp2_with (fail)
                refine (HH3.out qc cc _ (HCO3.out.bel HD.out)).mono ?_
                rintro e wH ⟨rfl, hg⟩
                replace HD := Lib.hid (HD.out.trans' hg)
                clear hg HH3 c0 c1 c2 c3 c4 c5 c6 c7 c8 c9 c10
                go_wp2_with (fail)
                refine (sameA_any qb bL bL.length cb rfl qs bL.length cs rfl _ (HBO3.out.bel HD.out) (HS3.out.bel HD.out) (by omega)).mono ?_
                rintro e wI ⟨rfl, hg⟩
                go_wp2
                go_ret
                exact ⟨rfl, HB3.out.trans' (HD.out.trans' hg)⟩
        have HIY := Lib.hid (al_at HSL8.out hlt)
        obtain ⟨bs, os, rfl⟩ := HIY.out
        clear HIY
        have HCY := Lib.hid (al_later HSL8.out hlt)
        have HIN : RowKit.Hid (l.any (fun x => eqA x s[k]) = true) := Lib.hid (any_in (sorted_memA (by rw [← HS.out]; exact List.getElem_mem hlt)))
        have hq : (0 : Int) ≤ k := by omega
        have hq2 : (k : Int) < s.length := by omega
        have HKR := Lib.hid HR.out
        go_wp2
        go_loopw [9, 10] (fun s9 i wq => ∃ (j : Nat) (f : Bool), j ≤ l.length ∧ i = .int .i64 j ∧ s9 = .bool f ∧ RowKit.Hid (f = (l.take j).any (fun x => eqA x s[k])) ∧ RowKit.Hid (Bel w8 wq)) (fun _ i _ => l.length - (intOf i).toNat)
        case atStart => exact ⟨0, false, Nat.zero_le _, rfl, rfl, Lib.hid rfl, HKR⟩
        case round =>
          obtain ⟨j, f, hj, rfl, rfl, HF, HQ⟩ := hrel
          clear HKR HR
          by_cases hjl : j < l.length
          · have hp : (0 : Int) ≤ j := by omega
            have hp2 : (j : Int) < l.length := by omega
            have HSU := Lib.hid (any_succ (y := s[k]) hjl)
            cases f
            · obtain ⟨bl, ol, rfl⟩ := al_at HL8.out hjl
              obtain ⟨c0, c1, c2, c3, c4, c5, c6, c7, c8, c9, c10⟩ := al_later HL8.out hjl _ HQ.out
              obtain ⟨d0, d1, d2, d3, d4, d5, d6, d7, d8, d9, d10⟩ := HCY.out _ HQ.out
              generalize s[k] = y at d0 d1 d2 d3 d4 d5 d6 d7 d8 d9 d10 HSU HF HIN HCY
              generalize l[j] = x at c0 c1 c2 c3 c4 c5 c6 c7 c8 c9 c10 HSU
              have he := eql_atom x y
              have HN : RowKit.Hid (eqA x y = (l.take (j + 1)).any (fun x => eqA x y)) := Lib.hid (by rw [HSU.out, ← HF.out]; simp)
              generalize eqA x y = g at he HN
              go_wp2
              go_quiet (fail)
              go_wp2
              go_roundw
              case rel => exact ⟨j + 1, g, by omega, by go_num, rfl, HN, Lib.hid (HQ.out.trans' (by first | exact Below.refl _ _ | exact bel_drewN _ _))⟩
              case measure => simp [intOf]; omega
            · have HN : RowKit.Hid (true = (l.take (j + 1)).any (fun x => eqA x s[k])) := Lib.hid (by rw [HSU.out, ← HF.out]; simp)
              go_wp2
              go_quiet (fail)
              go_wp2
              go_roundw
              case rel => exact ⟨j + 1, true, by omega, by go_num, rfl, HN, Lib.hid (HQ.out.trans' (by first | exact Below.refl _ _ | exact bel_drewN _ _))⟩
              case measure => simp [intOf]; omega
          · obtain rfl : j = l.length := by omega
            obtain rfl : f = true := by rw [HF.out, List.take_length]; exact HIN.out
            clear HF HIN
            by_cases hk0 : k = 0
            · subst hk0
              go_wp2
              go_quiet (fail)
              go_wp2
              go_roundw
              case rel => exact ⟨1, by omega, by go_num, Lib.hid (HQ.out.trans' (by first | exact Below.refl _ _ | exact bel_drewN _ _))⟩
              case measure => simp [intOf]; omega
            · obtain ⟨m, rfl⟩ : ∃ m, k = m + 1 := ⟨k - 1, by omega⟩
              have HCX := Lib.hid (al_later HSL8.out (Nat.lt_of_succ_lt hlt))
              have HLT : RowKit.Hid (cmpD s[m] s[m + 1] = -1) := Lib.hid (cmp_lt.2 (List.pairwise_iff_getElem.1 HSA.out m (m + 1) (by omega) hlt (by omega)))
              have HX1 := Lib.hid (HSS.out _ (List.getElem_mem (Nat.lt_of_succ_lt hlt)))
              have HX2 := Lib.hid (HSS.out _ (List.getElem_mem hlt))
              have hw : IntKind.i64.wrap (m : Int) = m := IntWalk.i64_in _ (by omega)
              have hw2 : IntKind.i64.wrap ((m : Int) + 1 - 1) = m := (IntWalk.i64_in _ (by omega)).trans (by omega)
              have hr1 : (0 : Int) ≤ (m : Int) + 1 := by omega
              have hr2 : (m : Int) + 1 < s.length := by omega
              have hr3 : (0 : Int) ≤ m := by omega
              have hr4 : (m : Int) < s.length := by omega
              have hr5 : (0 : Int) < (m : Int) + 1 := by omega
              have hd : Bel wr wr.drew := bel_drew' (Below.refl _ _)
              generalize s[m + 1] = y at HCY HLT HX2
              generalize s[m] = x at HCX HLT HX1
              have HCM := Lib.hid (fun W => Compare_any x y W HX1.out HX2.out)
              rw [HLT.out] at HCM
              clear hk0 HLT hlt hq hq2
              obtain ⟨c0, c1, c2, c3, c4, c5, c6, c7, c8, c9, c10⟩ := HCX.out wr.drew (HQ.out.trans' hd)
              obtain ⟨d0, d1, d2, d3, d4, d5, d6, d7, d8, d9, d10⟩ := HCY.out wr.drew (HQ.out.trans' hd)
              go_wp2
              go_region_held3 (fun w' => (w'.cell? ⟨bs, os + m * 11, none⟩ = some (.string x.says) ∧ w'.cell? ⟨bs, os + m * 11 + 1, none⟩ = some (.string x.pred) ∧ w'.cell? ⟨bs, os + m * 11 + 2, none⟩ = some (.int .i64 x.n) ∧ w'.cell? ⟨bs, os + m * 11 + 3, none⟩ = some (.bool x.t0.v) ∧ w'.cell? ⟨bs, os + m * 11 + 4, none⟩ = some (.string x.t0.name) ∧ w'.cell? ⟨bs, os + m * 11 + 5, none⟩ = some (.bool x.t1.v) ∧ w'.cell? ⟨bs, os + m * 11 + 6, none⟩ = some (.string x.t1.name) ∧ w'.cell? ⟨bs, os + m * 11 + 7, none⟩ = some (.bool x.t2.v) ∧ w'.cell? ⟨bs, os + m * 11 + 8, none⟩ = some (.string x.t2.name) ∧ w'.cell? ⟨bs, os + m * 11 + 9, none⟩ = some (.bool x.t3.v) ∧ w'.cell? ⟨bs, os + m * 11 + 10, none⟩ = some (.string x.t3.name)) ∧ (w'.cell? ⟨bs, os + (m + 1) * 11, none⟩ = some (.string y.says) ∧ w'.cell? ⟨bs, os + (m + 1) * 11 + 1, none⟩ = some (.string y.pred) ∧ w'.cell? ⟨bs, os + (m + 1) * 11 + 2, none⟩ = some (.int .i64 y.n) ∧ w'.cell? ⟨bs, os + (m + 1) * 11 + 3, none⟩ = some (.bool y.t0.v) ∧ w'.cell? ⟨bs, os + (m + 1) * 11 + 4, none⟩ = some (.string y.t0.name) ∧ w'.cell? ⟨bs, os + (m + 1) * 11 + 5, none⟩ = some (.bool y.t1.v) ∧ w'.cell? ⟨bs, os + (m + 1) * 11 + 6, none⟩ = some (.string y.t1.name) ∧ w'.cell? ⟨bs, os + (m + 1) * 11 + 7, none⟩ = some (.bool y.t2.v) ∧ w'.cell? ⟨bs, os + (m + 1) * 11 + 8, none⟩ = some (.string y.t2.name) ∧ w'.cell? ⟨bs, os + (m + 1) * 11 + 9, none⟩ = some (.bool y.t3.v) ∧ w'.cell? ⟨bs, os + (m + 1) * 11 + 10, none⟩ = some (.string y.t3.name))) (first | exact ⟨HCX.out _ (HQ.out.trans' hd), HCY.out _ (HQ.out.trans' hd)⟩ | go_keep | trivial)
                (first | (go_at_call 20; refine (HCM.out _).mono ?_; rintro e w9 ⟨rfl, hg⟩; replace hd := hd.trans' hg; clear hg))
              all_goals
                clear c0 c1 c2 c3 c4 c5 c6 c7 c8 c9 c10 d0 d1 d2 d3 d4 d5 d6 d7 d8 d9 d10
                go_wp2
                go_roundw
                case rel => exact ⟨m + 1 + 1, by omega, by go_num, Lib.hid (HQ.out.trans' hd)⟩
                case measure => simp [intOf]; omega
end Go.Proofs.Ytamghlneoglfnaa
