/-
  The reference's composing. Conditions: as it says.
-/
import Derived.Test.YtdmdefdiglpgaaaSbY2
import Derived.Test.YtdmdefdiglpgaaaSgE
namespace Go.Proofs.Ytdmdefdiglpgaaa
open Go.RowKit

theorem put_len_any (A : Option Addr) (l : List BindD) (n ca : Nat) (hn : l.length = n) (x : BindD) (w : World) (hL : BL w A ca l) (hl : l.length ≤ 200000) :
    Calls Try.prog 56 #[.slice A n ca, .agg #[.string x.v, .bool x.t.v, .string x.t.name]] w fun e w' => (∃ q c out, RowKit.Hid (out = putB l x) ∧ RowKit.Hid (OB w w' q c out) ∧ e = .returned (.slice q out.length c)) ∧ Bel w w' :=
  put_any A l n ca hn x w hL (by omega)
set_option maxRecDepth 20000 in
set_option maxHeartbeats 16000000 in
theorem rCompose_any (A : Option Addr) (a : List BindD) (na ca : Nat) (hna : a.length = na) (B : Option Addr) (b : List BindD) (nb cb : Nat) (hnb : b.length = nb) (w : World) (hL : BL w A ca a) (hl : a.length ≤ 100000) (hM : BL w B cb b) (hm : b.length ≤ 100000) :
    Calls Try.prog 26 #[.slice A na ca, .slice B nb cb] w fun e w' => (∃ q c out n, RowKit.Hid ((out, n) = compD a b) ∧ RowKit.Hid (OB w w' q c out) ∧ e = .returned (.tuple #[.slice q out.length c, .int .i64 n])) ∧ Bel w w' := by
  subst hna hnb
  have HL := Lib.hid hL
  have HM := Lib.hid hM
  clear hL hM
  have hl2 : a.length ≤ 1000000 := by omega
  have hm2 : b.length ≤ 1000000 := by omega
  have hb : Bel w w := Below.refl _ _
  have hC1 := Lib.hid (fun W (hg : Bel w W) => rCheck4_any A a a.length ca rfl W (HL.out.bel hg) hl2)
  have hC2 := Lib.hid (fun W (hg : Bel w W) => rCheck4_any B b b.length cb rfl W (HM.out.bel hg) hm2)
  cases hca : checkB a
  · have HR := Lib.hid (comp_bad1 (b := b) hca)
    rw [errB_bad hca] at hC1
    clear hca
    go_enter Try.func26, Try.ntmps26
    go_wp2_with (go_at_call 27; refine (hC1.out _ hb).mono ?_; rintro e w1 ⟨rfl, hg⟩; have hb := hb.trans' hg; clear hg)
    go_ret2
    exact ⟨⟨none, 0, [], 15, Lib.hid HR.out.symm, Lib.hid (OB.nil w hb), rfl⟩, hb⟩
  rw [errB_ok hca] at hC1
  cases hcb : checkB b
  · have HR := Lib.hid (comp_bad2 (a := a) hcb)
    rw [errB_bad hcb] at hC2
    clear hca hcb
    go_enter Try.func26, Try.ntmps26
    go_wp2_with (first | (go_at_call_of 27 (Value.slice A a.length ca); refine (hC1.out _ hb).mono ?_; rintro e w1 ⟨rfl, hg⟩; have hb := hb.trans' hg; clear hg) | (go_at_call_of 27 (Value.slice B b.length cb); refine (hC2.out _ hb).mono ?_; rintro e w2 ⟨rfl, hg⟩; have hb := hb.trans' hg; clear hg))
    go_ret2
    exact ⟨⟨none, 0, [], 15, Lib.hid HR.out.symm, Lib.hid (OB.nil w hb), rfl⟩, hb⟩
  rw [errB_ok hcb] at hC2
  have HCA := Lib.hid hca
  have HCB := Lib.hid hcb
  have HF := Lib.hid (comp_fold (checkB_iff.1 hca).1 (checkB_iff.1 hcb).1)
  clear hca hcb
  have hU := und_len a b
  go_enter Try.func26, Try.ntmps26
  go_wp2_with (first | (go_at_call_of 27 (Value.slice A a.length ca); refine (hC1.out _ hb).mono ?_; rintro e w1 ⟨rfl, hg⟩; have hb := hb.trans' hg; clear hg) | (go_at_call_of 27 (Value.slice B b.length cb); refine (hC2.out _ hb).mono ?_; rintro e w2 ⟨rfl, hg⟩; have hb := hb.trans' hg; clear hg))
  have HB := Lib.hid hb
  clear hb hC1 hC2
  go_loopw [6, 7, 8] (fun a6 i _ wr => ∃ (k : Nat) (out : List BindD) (q : Option Addr) (c : Nat), k ≤ a.length ∧ i = .int .i64 k ∧ a6 = .slice q out.length c ∧ out.length ≤ k ∧ RowKit.Hid (out = putsB [] (undB (a.take k) b) ∧ OB w wr q c out)) (fun _ i _ _ => a.length - (intOf i).toNat)
  case atStart => exact ⟨0, [], none, 0, Nat.zero_le _, rfl, rfl, Nat.le_refl _, Lib.hid ⟨rfl, OB.nil _ HB.out⟩⟩
  case round =>
    obtain ⟨k, out, q, c, hk, rfl, rfl, hol, H⟩ := hrel
    have HO := Lib.hid H.out.2
    have HI := Lib.hid H.out.1
    clear H
    by_cases hlt : k < a.length
    · obtain ⟨ab, o, rfl, hbb, hc⟩ := bl_get (HL.out.bel HO.out.bel) (by omega)
      obtain ⟨c1, c2, c3⟩ := hc k hlt
      have hq : (0 : Int) ≤ k := by omega
      have hq2 : (k : Int) < a.length := by omega
      have HS := Lib.hid (und_succ (m := b) (List.getElem?_eq_getElem hlt))
      clear hc hbb
      generalize a[k] = x at c1 c2 c3 HS
      obtain ⟨xv, xt⟩ := x
      simp only at c1 c2 c3
      have hT := Lib.hid (rTerm4_any B b b.length cb rfl xt wr (HM.out.bel HO.out.bel) hm2)
      obtain ⟨u, hu⟩ : ∃ u, u = subT b xt := ⟨_, rfl⟩
      rw [← hu] at hT
      simp only [← hu] at HS
      clear hu
      obtain ⟨uv, un⟩ := u
      have hcmp : (uv = true ∧ un = xv) ∨ (uv = true ∧ un ≠ xv) ∨ uv = false := by
        cases uv
        · exact .inr (.inr rfl)
        · by_cases e : un = xv
          · exact .inl ⟨rfl, e⟩
          · exact .inr (.inl ⟨rfl, e⟩)
      rcases hcmp with ⟨rfl, rfl⟩ | ⟨rfl, he⟩ | rfl
      · have HN : RowKit.Hid (undB (a.take (k + 1)) b = undB (a.take k) b) := Lib.hid (by rw [HS.out, if_pos (selfB_iff.2 rfl), List.append_nil])
        go_wp2_with (go_at_call 28; refine hT.out.mono ?_; rintro e w4 ⟨⟨u1, HU, rfl⟩, hg⟩; obtain rfl := HU.out; have c1 : w4.cell? ⟨ab, o + k * 3, none⟩ = _ := cell_bel c1 hg; have HO := Lib.hid (HO.out.bel' hg); have hbw := bel_alloc w4 (.cells #[.bool true, .string un] 29); have HO := Lib.hid (HO.out.bel' hbw); have c1 := cell_bel c1 hbw; clear hg c2 c3)
        go_quiet (fail)
        go_wp2
        go_roundw
        case rel => exact ⟨k + 1, out, q, c, by omega, by go_num, rfl, by omega, Lib.hid ⟨by rw [HN.out]; exact HI.out, HO.out.bel' (by first | exact Below.refl _ _ | exact bel_drewN _ _)⟩⟩
        case measure => simp [intOf]; omega
      · have HN : RowKit.Hid (undB (a.take (k + 1)) b = undB (a.take k) b ++ [⟨xv, true, un⟩]) := Lib.hid (by rw [HS.out, if_neg (by rw [selfB_iff]; intro h; exact he (by injection h))])
        have he2 := toList_ne he
        clear he
        go_wp2_with (go_at_call 28; refine hT.out.mono ?_; rintro e w4 ⟨⟨u1, HU, rfl⟩, hg⟩; obtain rfl := HU.out; have c1 : w4.cell? ⟨ab, o + k * 3, none⟩ = _ := cell_bel c1 hg; have HO := Lib.hid (HO.out.bel' hg); have hbw := bel_alloc w4 (.cells #[.bool true, .string un] 29); have HO := Lib.hid (HO.out.bel' hbw); have c1 := cell_bel c1 hbw; have hT4 : TermAt (w4.alloc (.cells #[.bool true, .string un] 29)) w4.heap.size ⟨true, un⟩ := TermAt.new w4 ⟨true, un⟩; clear hg c2 c3)
        go_quiet (fail)
        have HOq := Lib.hid (HO.out.bel' (bel_drewN (w4.alloc (.cells #[.bool true, .string un] 29)) nq))
        have c1 := cell_bel c1 (bel_drewN (w4.alloc (.cells #[.bool true, .string un] 29)) nq)
        have hT4 := hT4.bel (bel_drewN (w4.alloc (.cells #[.bool true, .string un] 29)) nq)
        generalize (w4.alloc (.cells #[.bool true, .string un] 29)).drewN nq = wq at HOq c1 hT4 ⊢
        obtain ⟨d1, d2⟩ := hT4.cells
        have HOd := Lib.hid (HOq.out.bel' (bel_drew' (Below.refl _ wq)))
        have hP := Lib.hid (put_len_any q out out.length c rfl ⟨xv, true, un⟩ wq.drew (OwnL.slice EB HOd.out) (by omega))
        go_wp2
        go_region_held3 (fun w' => w'.cell? ⟨ab, o + k * 3, none⟩ = some (.string xv) ∧ w'.cell? ⟨w4.heap.size, 0, none⟩ = some (.bool true) ∧ w'.cell? ⟨w4.heap.size, 1, none⟩ = some (.string un)) (first | go_keep | trivial)
          ((go_at_call 56; refine hP.out.mono ?_; rintro e w5 ⟨⟨q5, k5, o5, HE5, HO5, rfl⟩, hg⟩; have z1 : w5.cell? ⟨ab, o + k * 3, none⟩ = some (.string xv) := cell_bel c1 ((bel_drew' (Below.refl _ _)).trans' hg); have z2 : w5.cell? ⟨w4.heap.size, 0, none⟩ = some (.bool true) := cell_bel d1 ((bel_drew' (Below.refl _ _)).trans' hg); have z3 : w5.cell? ⟨w4.heap.size, 1, none⟩ = some (.string un) := cell_bel d2 ((bel_drew' (Below.refl _ _)).trans' hg)))
        all_goals go_wp2
        all_goals go_roundw
        all_goals first
          | (case rel => exact ⟨k + 1, o5, q5, k5, by omega, by go_num, rfl, (by rw [HE5.out, putB_len]; omega), Lib.hid ⟨by rw [HN.out, puts_snoc, ← HI.out]; exact HE5.out, HO5.out.base HOd.out.bel⟩⟩)
          | (simp [intOf]; omega)
      · have HN : RowKit.Hid (undB (a.take (k + 1)) b = undB (a.take k) b ++ [⟨xv, false, un⟩]) := Lib.hid (by rw [HS.out, if_neg (by rw [selfB_iff]; intro h; injection h with h _; cases h)])
        go_wp2_with (go_at_call 28; refine hT.out.mono ?_; rintro e w4 ⟨⟨u1, HU, rfl⟩, hg⟩; obtain rfl := HU.out; have c1 : w4.cell? ⟨ab, o + k * 3, none⟩ = _ := cell_bel c1 hg; have HO := Lib.hid (HO.out.bel' hg); have hbw := bel_alloc w4 (.cells #[.bool false, .string un] 29); have HO := Lib.hid (HO.out.bel' hbw); have c1 := cell_bel c1 hbw; have hT4 : TermAt (w4.alloc (.cells #[.bool false, .string un] 29)) w4.heap.size ⟨false, un⟩ := TermAt.new w4 ⟨false, un⟩; clear hg c2 c3)
        go_quiet (fail)
        have HOq := Lib.hid (HO.out.bel' (bel_drewN (w4.alloc (.cells #[.bool false, .string un] 29)) nq))
        have c1 := cell_bel c1 (bel_drewN (w4.alloc (.cells #[.bool false, .string un] 29)) nq)
        have hT4 := hT4.bel (bel_drewN (w4.alloc (.cells #[.bool false, .string un] 29)) nq)
        generalize (w4.alloc (.cells #[.bool false, .string un] 29)).drewN nq = wq at HOq c1 hT4 ⊢
        obtain ⟨d1, d2⟩ := hT4.cells
        have HOd := Lib.hid (HOq.out.bel' (bel_drew' (Below.refl _ wq)))
        have hP := Lib.hid (put_len_any q out out.length c rfl ⟨xv, false, un⟩ wq.drew (OwnL.slice EB HOd.out) (by omega))
        go_wp2
        go_region_held3 (fun w' => w'.cell? ⟨ab, o + k * 3, none⟩ = some (.string xv) ∧ w'.cell? ⟨w4.heap.size, 0, none⟩ = some (.bool false) ∧ w'.cell? ⟨w4.heap.size, 1, none⟩ = some (.string un)) (first | go_keep | trivial)
          ((go_at_call 56; refine hP.out.mono ?_; rintro e w5 ⟨⟨q5, k5, o5, HE5, HO5, rfl⟩, hg⟩; have z1 : w5.cell? ⟨ab, o + k * 3, none⟩ = some (.string xv) := cell_bel c1 ((bel_drew' (Below.refl _ _)).trans' hg); have z2 : w5.cell? ⟨w4.heap.size, 0, none⟩ = some (.bool false) := cell_bel d1 ((bel_drew' (Below.refl _ _)).trans' hg); have z3 : w5.cell? ⟨w4.heap.size, 1, none⟩ = some (.string un) := cell_bel d2 ((bel_drew' (Below.refl _ _)).trans' hg)))
        all_goals go_wp2
        all_goals go_roundw
        all_goals first
          | (case rel => exact ⟨k + 1, o5, q5, k5, by omega, by go_num, rfl, (by rw [HE5.out, putB_len]; omega), Lib.hid ⟨by rw [HN.out, puts_snoc, ← HI.out]; exact HE5.out, HO5.out.base HOd.out.bel⟩⟩)
          | (simp [intOf]; omega)
    · obtain rfl : k = a.length := by omega
      have HI2 : RowKit.Hid (out = putsB [] (undB a b)) := Lib.hid (by have := HI.out; rwa [List.take_length] at this)
      have hol1 : out.length ≤ a.length := hol
      have HB1 := Lib.hid HO.out.bel
      obtain ⟨P, hP⟩ : ∃ P, P = out := ⟨_, rfl⟩
      have HP := Lib.hid hP
      have HPL : RowKit.Hid (P.length ≤ 100000) := Lib.hid (by rw [hP]; omega)
      have HO : RowKit.Hid (OB w wr q c P) := by rw [hP]; exact HO
      have HPU : RowKit.Hid (P = putsB [] (undB a b)) := by rw [hP]; exact HI2
      clear hP HI HI2 hol hol1 HB1
      have hPQ : (Value.slice q out.length c) = .slice q P.length c := by rw [HP.out]
      rw [hPQ]
      clear hPQ HP hk hlt hU
      go_wp2
      go_loopw [6, 9, 10, 11] (fun a6 i _ _ wr2 => ∃ (k : Nat) (out : List BindD) (q : Option Addr) (c : Nat), k ≤ b.length ∧ i = .int .i64 k ∧ a6 = .slice q out.length c ∧ out.length ≤ P.length + k ∧ RowKit.Hid (out = putsB P (unbB (b.take k) a) ∧ OB w wr2 q c out)) (fun _ i _ _ _ => b.length - (intOf i).toNat)
      case atStart => exact ⟨0, P, q, c, Nat.zero_le _, rfl, rfl, Nat.le_refl _, Lib.hid ⟨rfl, HO.out⟩⟩
      case round =>
        clear HO
        obtain ⟨k, out, q, c, hk, rfl, rfl, hol, H⟩ := hrel
        have HO := Lib.hid H.out.2
        have HI := Lib.hid H.out.1
        have hpl := HPL.out
        clear H
        by_cases hlt : k < b.length
        · obtain ⟨bb, o, rfl, hbb, hc⟩ := bl_get (HM.out.bel HO.out.bel) (by omega)
          obtain ⟨c1, c2, c3⟩ := hc k hlt
          have hq : (0 : Int) ≤ k := by omega
          have hq2 : (k : Int) < b.length := by omega
          have HS := Lib.hid (unb_succ (m := a) (List.getElem?_eq_getElem hlt))
          clear hc hbb
          generalize b[k] = x at c1 c2 c3 HS
          obtain ⟨xv, xt⟩ := x
          simp only at c1 c2 c3
          have hT := Lib.hid (rGet_any A a a.length ca rfl xv wr (HL.out.bel HO.out.bel) hl2)
          have HGS := Lib.hid (getR_snd a xv)
          obtain ⟨r, hr⟩ : ∃ r, r = getR a xv := ⟨_, rfl⟩
          rw [← hr] at hT HGS
          clear hr
          obtain ⟨r1, r2⟩ := r
          cases r2
          · have HN : RowKit.Hid (unbB (b.take (k + 1)) a = unbB (b.take k) a ++ [⟨xv, xt⟩]) := Lib.hid (by rw [HS.out]; simp only; rw [← HGS.out]; rfl)
            go_wp2_with (first | (go_at_call 23; refine hT.out.mono ?_; rintro e w4 ⟨⟨t1, is1, hE, rfl⟩, hg⟩; obtain ⟨rfl, rfl⟩ := Prod.mk.inj hE.out; have hb4 := hg.trans' (bel_alloc w4 (.cells #[.bool t1.v, .string t1.name] 29)); have HO := Lib.hid (HO.out.bel' hb4); have c1 := cell_bel c1 hb4; have c2 := cell_bel c2 hb4; have c3 := cell_bel c3 hb4; clear hg) | (go_at_call 56; refine (put_len_any q out out.length c rfl ⟨xv, xt⟩ _ (OwnL.slice EB HO.out) (by omega)).mono ?_; rintro e w5 ⟨⟨q5, k5, o5, HE5, HO5, rfl⟩, hg⟩))
            go_roundw
            case rel => exact ⟨k + 1, o5, q5, k5, by omega, by go_num, rfl, (by rw [HE5.out, putB_len]; omega), Lib.hid ⟨by rw [HN.out, puts_snoc, ← HI.out]; exact HE5.out, HO5.out.base HO.out.bel⟩⟩
            case measure => simp [intOf]; omega
          · have HN : RowKit.Hid (unbB (b.take (k + 1)) a = unbB (b.take k) a) := Lib.hid (by rw [HS.out]; simp only; rw [← HGS.out]; simp)
            go_wp2_with (go_at_call 23; refine hT.out.mono ?_; rintro e w4 ⟨⟨t1, is1, hE, rfl⟩, hg⟩; obtain ⟨rfl, rfl⟩ := Prod.mk.inj hE.out; have hb4 := hg.trans' (bel_alloc w4 (.cells #[.bool t1.v, .string t1.name] 29)); have HO := Lib.hid (HO.out.bel' hb4); clear hg)
            go_roundw
            case rel => exact ⟨k + 1, out, q, c, by omega, by go_num, rfl, by omega, Lib.hid ⟨by rw [HN.out]; exact HI.out, HO.out⟩⟩
            case measure => simp [intOf]; omega
        · obtain rfl : k = b.length := by omega
          have HFo : RowKit.Hid (out = compL a b) := Lib.hid (by rw [← HF.out, ← HPU.out]; have := HI.out; rwa [List.take_length] at this)
          have hC := Lib.hid (rCheck4_any q out out.length c rfl wr (OwnL.slice EB HO.out) (by omega))
          cases hcc : checkB (compL a b)
          · have HR := Lib.hid (comp_bad3 HCA.out HCB.out hcc)
            rw [HFo.out, errB_bad hcc, ← HFo.out] at hC
            clear hcc
            go_wp2_with (go_at_call 27; refine hC.out.mono ?_; rintro e w6 ⟨rfl, hg⟩)
            go_ret2
            have hb0 : Bel w wr := HO.out.bel
            have hbb := hb0.trans' hg
            exact ⟨⟨none, 0, [], 15, Lib.hid HR.out.symm, Lib.hid (OB.nil w hbb), rfl⟩, hbb⟩
          · have HR := Lib.hid (comp_ok HCA.out HCB.out hcc)
            rw [HFo.out, errB_ok hcc, ← HFo.out] at hC
            clear hcc
            go_wp2_with (go_at_call 27; refine hC.out.mono ?_; rintro e w6 ⟨rfl, hg⟩)
            go_ret2
            have hb0 : Bel w wr := HO.out.bel
            exact ⟨⟨q, c, out, 0, Lib.hid (by rw [HR.out, HFo.out]), Lib.hid (HO.out.bel' hg), rfl⟩, hb0.trans' hg⟩
end Go.Proofs.Ytdmdefdiglpgaaa
