/-
  The reference's Restrict; bounds of texts. Conditions: as each says.
-/
import Derived.Test.YtdmdefdiglpgaaaSbP1
namespace Go.Proofs.Ytdmdefdiglpgaaa
open Go.RowKit

set_option maxRecDepth 20000 in
set_option maxHeartbeats 8000000 in
theorem rRestrict_any (A : Option Addr) (l : List BindD) (n ca : Nat) (hn : l.length = n) (V : Option Addr) (vs : List ByteArray) (nv cv : Nat) (hnv : vs.length = nv) (w : World) (hL : BL w A ca l) (hl : l.length ≤ 1000000) (hV : SI w V vs) (hv : vs.length ≤ 1000000) :
    Calls Try.prog 31 #[.slice A n ca, .slice V nv cv] w fun e w' => (∃ q c out, RowKit.Hid (out = restD l vs) ∧ RowKit.Hid (OB w w' q c out) ∧ e = .returned (.slice q out.length c)) ∧ Bel w w' := by
  subst hn hnv
  have HL := Lib.hid hL
  have HV := Lib.hid hV
  clear hL hV
  go_enter Try.func31, Try.ntmps31
  go_wp2
  go_loopw [5, 6, 7, 8] (fun a7 i _ _ wr => ∃ (k : Nat) (out : List BindD) (q : Option Addr) (c : Nat), k ≤ l.length ∧ i = .int .i64 k ∧ a7 = .slice q out.length c ∧ RowKit.Hid (out = restD (l.take k) vs ∧ OB w wr q c out)) (fun _ i _ _ _ => l.length - (intOf i).toNat)
  case atStart => exact ⟨0, [], none, 0, Nat.zero_le _, rfl, rfl, Lib.hid ⟨rfl, OB.nil _ (Below.refl _ _)⟩⟩
  case round =>
    obtain ⟨k, out, q, c, hk, rfl, rfl, H⟩ := hrel
    have HO := Lib.hid H.out.2
    have HE := Lib.hid H.out.1
    have HW : RowKit.Hid (Bel w wr) := Lib.hid H.out.2.bel
    clear H
    by_cases hlt : k < l.length
    · obtain ⟨b, o, rfl, hbb, hc⟩ := bl_get (HL.out.bel HW.out) (by omega)
      obtain ⟨c1, c2, c3⟩ := hc k hlt
      have hq : (0 : Int) ≤ k := by omega
      have hq2 : (k : Int) < l.length := by omega
      have HS := Lib.hid (rest_succ (vs := vs) (List.getElem?_eq_getElem hlt))
      have hol : out.length ≤ 2000000 := by
        have h1 := HE.out
        have h2 := rest_len (l.take k) vs
        rw [← h1, List.length_take] at h2
        omega
      clear hc hbb
      generalize l[k] = y at c1 c2 c3 HS
      obtain ⟨yv, u⟩ := y
      simp only at c1 c2 c3
      have HC := Lib.hid (And.intro c1 (And.intro c2 c3))
      clear c1 c2 c3
      go_wp2
      go_loopw [7, 8] (fun a9 j wr2 => ∃ jj : Nat, jj ≤ vs.length ∧ j = .int .i64 jj ∧ a9 = .bool (hit vs yv jj) ∧ RowKit.Hid (Bel wr wr2)) (fun _ j _ => vs.length - (intOf j).toNat)
      case atStart => exact ⟨0, Nat.zero_le _, rfl, rfl, Lib.hid (Below.refl _ _)⟩
      case round =>
        obtain ⟨j, hj, rfl, rfl, HJ⟩ := hrel
        have c1 := cell_bel HC.out.1 HJ.out
        by_cases hjl : j < vs.length
        · obtain ⟨bv, ov, rfl, _, hcv⟩ := si_get ((HV.out.bel HW.out).bel HJ.out) (by omega)
          have d1 := hcv j hjl
          have HH := Lib.hid (hit_succ (x := yv) hjl)
          have hj0 : (0 : Int) ≤ j := by omega
          have hj1 : (j : Int) < vs.length := by omega
          clear hcv
          generalize vs[j] = z at d1 HH
          rcases Bool.eq_false_or_eq_true (hit vs yv j) with hh | hh
          · have HZ : RowKit.Hid (hit vs yv (j + 1) = true) := Lib.hid (by rw [HH.out, hh]; rfl)
            rw [hh]
            clear d1 c1 hj0 hj1
            go_wp2
            go_quiet (fail)
            go_wp2
            go_roundw
            case rel => exact ⟨j + 1, by omega, by go_num, by rw [HZ.out], Lib.hid (HJ.out.trans' (by first | exact Below.refl _ _ | exact bel_drewN _ _))⟩
            case measure => simp [intOf]; omega
          · have HZ : RowKit.Hid (hit vs yv (j + 1) = (z.toList == yv.toList)) := Lib.hid (by rw [HH.out, hh]; rfl)
            go_wp2
            go_quiet (fail)
            go_wp2
            go_roundw
            case rel => exact ⟨j + 1, by omega, by go_num, by rw [HZ.out], Lib.hid (HJ.out.trans' (by first | exact Below.refl _ _ | exact bel_drewN _ _))⟩
            case measure => simp [intOf]; omega
        · obtain rfl : j = vs.length := by omega
          have HHA := Lib.hid (hit_all vs yv)
          have HO2' := Lib.hid (HO.out.bel' HJ.out)
          rcases Bool.eq_false_or_eq_true (hit vs yv vs.length) with hh | hh
          · have HN : RowKit.Hid (restD (l.take (k + 1)) vs = out ++ [⟨yv, u⟩]) := Lib.hid (by rw [HS.out, ← HE.out]; rw [← HHA.out, hh]; rfl)
            have c2 := cell_bel HC.out.2.1 HJ.out
            have c3 := cell_bel HC.out.2.2 HJ.out
            rw [hh]
            go_wp2_with (at_builtin; refine wpList_push rfl (.tmp 35) (.tmp 40) 23 Try.underlying23 rfl ⟨yv, u⟩ rfl rfl HO2'.out hol ?_; intro q' c' w9 out' HX' HO')
            go_roundw
            case rel => exact ⟨k + 1, out', q', c', by omega, by go_num, rfl, Lib.hid ⟨HX'.out.trans HN.out.symm, HO'.out⟩⟩
            case measure => simp [intOf]; omega
          · have HN : RowKit.Hid (restD (l.take (k + 1)) vs = out) := Lib.hid (by rw [HS.out, ← HE.out]; rw [← HHA.out, hh]; simp)
            rw [hh]
            go_wp2
            go_roundw
            case rel => exact ⟨k + 1, out, q, c, by omega, by go_num, rfl, Lib.hid ⟨HN.out.symm, HO2'.out⟩⟩
            case measure => simp [intOf]; omega
    · obtain rfl : k = l.length := by omega
      have HN : RowKit.Hid (out = restD l vs) := Lib.hid (by have := HE.out; rwa [List.take_length] at this)
      go_wp2
      go_ret
      exact ⟨⟨q, c, out, HN, HO, rfl⟩, HW.out⟩
end Go.Proofs.Ytdmdefdiglpgaaa
