/-
  The reference's check of bindings. Conditions: as it says.
-/
import Derived.Test.YtdmdefdiglpgaaaSbQ
namespace Go.Proofs.Ytdmdefdiglpgaaa
open Go.RowKit

def AdjB (l : List BindD) (k : Nat) : Prop := ∀ j (h : j + 1 < l.length), j + 1 < k → ltB l[j] l[j + 1] = true
theorem adj_zero (l : List BindD) : AdjB l 0 := fun j _ h => by omega
theorem adj_one (l : List BindD) : AdjB l 1 := fun j _ h => by omega
theorem adj_succ {l : List BindD} {m : Nat} (hm : m + 1 < l.length) (h : AdjB l (m + 1)) (h2 : ltB l[m] l[m + 1] = true) : AdjB l (m + 1 + 1) := fun j hj hk => by
  by_cases e : j = m
  · subst e; exact h2
  · exact h j hj (by omega)
theorem adj_asc {l : List BindD} (h : AdjB l l.length) : Asc l := asc_of_up l (fun j hj => h j hj hj)
theorem adj_not {l : List BindD} {m : Nat} (hm : m + 1 < l.length) (h2 : ltB l[m] l[m + 1] = false) : errB l = 15 := err_asc (fun h => by
  have := asc_adj h m hm
  rw [h2] at this; cases this)

set_option maxRecDepth 20000 in
set_option maxHeartbeats 8000000 in
theorem rCheck4_any (A : Option Addr) (l : List BindD) (n ca : Nat) (hn : l.length = n) (w : World) (hL : BL w A ca l) (hl : l.length ≤ 1000000) :
    Calls Try.prog 27 #[.slice A n ca] w fun e w' => e = .returned (.int .i64 (errB l)) ∧ Bel w w' := by
  subst hn
  have HL := Lib.hid hL
  clear hL
  go_enter Try.func27, Try.ntmps27
  go_wp2
  go_loopw [3] (fun i wr => ∃ k : Nat, k ≤ l.length ∧ i = .int .i64 k ∧ RowKit.Hid (Bel w wr) ∧ RowKit.Hid (AdjB l k ∧ (l.take k).all (goodB l) = true)) (fun i _ => l.length - (intOf i).toNat)
  case atStart => exact ⟨0, Nat.zero_le _, rfl, Lib.hid (Below.refl _ _), Lib.hid ⟨adj_zero l, rfl⟩⟩
  case round =>
    obtain ⟨k, hk, rfl, HB, HU⟩ := hrel
    by_cases hlt : k < l.length
    case neg =>
      obtain rfl : k = l.length := by omega
      have HE := Lib.hid (err_ok (adj_asc HU.out.1) HU.out.2)
      go_wp2
      go_ret
      exact ⟨ret_int HE.out.symm, HB.out⟩
    obtain ⟨b, o, rfl, hbb, hc⟩ := bl_get (HL.out.bel HB.out) (by omega)
    obtain ⟨c1, c2, c3⟩ := hc k hlt
    have hq : (0 : Int) ≤ k := by omega
    have hq2 : (k : Int) < l.length := by omega
    have HX : RowKit.Hid (goodB l l[k] = false → errB l = 15) := Lib.hid (err_bad (List.getElem_mem hlt))
    have HS : RowKit.Hid (goodB l l[k] = true → (l.take (k + 1)).all (goodB l) = true) := Lib.hid (all_succ hlt HU.out.2)
    have HW := Lib.hid (HL.out.bel HB.out)
    have hF := Lib.hid (fun W (hg : Bel wr W) s => rGet_any (some ⟨b, o, none⟩) l l.length ca rfl s W (HW.out.bel hg) hl)
    by_cases hk0 : k = 0
    · subst hk0
      have HJ := Lib.hid (adj_one l)
      clear hc hbb HU HW
      generalize l[0] = x at c1 c2 c3 HS HX
      obtain ⟨xv, tv, s⟩ := x
      simp only at c1 c2 c3
      by_cases hs : s = emp
      · subst hs
        have HE := Lib.hid (HX.out good_emp)
        unfold emp at *
        go_wp2
        go_quiet (fail)
        go_wp2
        go_ret
        exact ⟨ret_int HE.out.symm, HB.out.trans' (bel_drewN _ _)⟩
      · have hs2 := ne_emp hs
        have hs3 : s.toList.isEmpty = false := by simpa using hs2
        cases tv
        · have HN := Lib.hid (HS.out (good_const hs))
          clear hs
          go_wp2
          go_quiet (fail)
          go_wp2
          go_roundw
          case rel => exact ⟨1, by omega, by go_num, Lib.hid (HB.out.trans' (bel_drewN _ _)), Lib.hid ⟨HJ.out, HN.out⟩⟩
          case measure => simp [intOf]; omega
        · have HS2 := Lib.hid hs
          clear hs
          go_wp2
          go_quiet (fail)
          go_wp2_with (fail)
          refine (hF.out _ (bel_drewN _ _) s).mono ?_
          rintro e w2 ⟨⟨t, is, HG, rfl⟩, hg⟩
          have HB2 := Lib.hid ((HB.out.trans' (bel_drewN _ _)).trans' (hg.trans' (bel_alloc w2 (.cells #[.bool t.v, .string t.name] 29))))
          have HI : RowKit.Hid (is = (getB l s).isSome) := Lib.hid (by rw [← getR_snd, ← HG.out])
          clear hg
          cases is
          · have HN := Lib.hid (HS.out (by rw [good_var HS2.out, ← HI.out]; rfl))
            go_wp2
            go_roundw
            case rel => exact ⟨1, by omega, by go_num, HB2, Lib.hid ⟨HJ.out, HN.out⟩⟩
            case measure => simp [intOf]; omega
          · have HE := Lib.hid (HX.out (by rw [good_var HS2.out, ← HI.out]; rfl))
            go_wp2
            go_ret
            exact ⟨ret_int HE.out.symm, HB2.out⟩
    · obtain ⟨m, rfl⟩ : ∃ m, k = m + 1 := ⟨k - 1, by omega⟩
      obtain ⟨d1, _, _⟩ := hc m (by omega)
      have hqm : (0 : Int) ≤ m := by omega
      have hqm2 : (m : Int) < l.length := by omega
      have hqm3 : (m : Int) + 1 < l.length := by omega
      have hqm4 : (0 : Int) < (m : Int) + 1 := by omega
      rcases Bool.eq_false_or_eq_true (Op.bytesLess l[m].v.toList l[m + 1].v.toList) with hv | hv
      case inr =>
        have HE := Lib.hid (adj_not hlt hv)
        clear hc hbb HU HW HX HS hF hq hq2
        generalize l[m].v = x at d1 hv
        generalize l[m + 1].v = y at c1 hv
        have hw2 : IntKind.i64.wrap ((m : Int) + 1 - 1) = m := (IntWalk.i64_in _ (by omega)).trans (by omega)
        have hw : IntKind.i64.wrap (m : Int) = m := IntWalk.i64_in _ (by omega)
        go_wp2
        go_quiet (fail)
        clear hw hw2
        go_wp2
        go_ret
        exact ⟨ret_int HE.out.symm, HB.out.trans' (bel_drewN _ _)⟩
      have HJ := Lib.hid (adj_succ hlt HU.out.1 hv)
      clear hc hbb HU HW hq hq2
      generalize l[m].v = z at d1 hv
      generalize l[m + 1] = x at c1 c2 c3 HS HX hv
      obtain ⟨xv, tv, s⟩ := x
      simp only at c1 c2 c3 hv
      by_cases hs : s = emp
      · subst hs
        have HE := Lib.hid (HX.out good_emp)
        unfold emp at *
        have hw2 : IntKind.i64.wrap ((m : Int) + 1 - 1) = m := (IntWalk.i64_in _ (by omega)).trans (by omega)
        have hw : IntKind.i64.wrap (m : Int) = m := IntWalk.i64_in _ (by omega)
        go_wp2
        go_quiet (fail)
        clear hw hw2
        go_wp2
        go_ret
        exact ⟨ret_int HE.out.symm, HB.out.trans' (bel_drewN _ _)⟩
      · have hs2 := ne_emp hs
        have hs3 : s.toList.isEmpty = false := by simpa using hs2
        have hw2 : IntKind.i64.wrap ((m : Int) + 1 - 1) = m := (IntWalk.i64_in _ (by omega)).trans (by omega)
        have hw : IntKind.i64.wrap (m : Int) = m := IntWalk.i64_in _ (by omega)
        cases tv
        · have HN := Lib.hid (HS.out (good_const hs))
          clear hs
          go_wp2
          go_quiet (fail)
          clear hw hw2
          go_wp2
          go_roundw
          case rel => exact ⟨m + 1 + 1, by omega, by go_num, Lib.hid (HB.out.trans' (bel_drewN _ _)), Lib.hid ⟨HJ.out, HN.out⟩⟩
          case measure => simp [intOf]; omega
        · have HS2 := Lib.hid hs
          clear hs
          go_wp2
          go_quiet (fail)
          clear hw hw2
          go_wp2_with (fail)
          refine (hF.out _ (bel_drewN _ _) s).mono ?_
          rintro e w2 ⟨⟨t, is, HG, rfl⟩, hg⟩
          have HB2 := Lib.hid ((HB.out.trans' (bel_drewN _ _)).trans' (hg.trans' (bel_alloc w2 (.cells #[.bool t.v, .string t.name] 29))))
          have HI : RowKit.Hid (is = (getB l s).isSome) := Lib.hid (by rw [← getR_snd, ← HG.out])
          clear hg
          cases is
          · have HN := Lib.hid (HS.out (by rw [good_var HS2.out, ← HI.out]; rfl))
            go_wp2
            go_roundw
            case rel => exact ⟨m + 1 + 1, by omega, by go_num, HB2, Lib.hid ⟨HJ.out, HN.out⟩⟩
            case measure => simp [intOf]; omega
          · have HE := Lib.hid (HX.out (by rw [good_var HS2.out, ← HI.out]; rfl))
            go_wp2
            go_ret
            exact ⟨ret_int HE.out.symm, HB2.out⟩
end Go.Proofs.Ytdmdefdiglpgaaa
