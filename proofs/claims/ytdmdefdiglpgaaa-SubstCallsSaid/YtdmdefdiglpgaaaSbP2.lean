/-
  The law SubstParts for every input. Conditions: what came in lies as its parameters' types say.
-/
import Derived.Test.YtdmdefdiglpgaaaSbP1
namespace Go.Proofs.Ytdmdefdiglpgaaa
open Go.RowKit

theorem wrap_small (n : Nat) (h : n ≤ 1000) : IntKind.i64.wrap (n : Int) = n := by
  have h2 := wrap_i64_ediv (n : Int) 1 (by omega) (by omega) (by omega)
  rwa [Int.ediv_one] at h2
theorem Restrict_own (A : Option Addr) (l : List BindD) (n ca : Nat) (hn : l.length = n) (V : Option Addr) (vs : List ByteArray) (nv cv : Nat) (hnv : vs.length = nv) (w : World) (hL : BL w A ca l) (hl : l.length ≤ 20) (hV : SI w V vs) (hv : vs.length ≤ 20) :
    Calls Try.prog 18 #[.slice A n ca, .slice V nv cv] w fun e w' => (∃ q c out, RowKit.Hid (out = restD l vs) ∧ RowKit.Hid (OB w w' q c out) ∧ e = .returned (.slice q out.length c)) ∧ Bel w w' :=
  Restrict_any A l n ca hn V vs nv cv hnv w hL (by omega) hV (by omega)

set_option maxRecDepth 20000 in
set_option maxHeartbeats 16000000 in
theorem lawSubstParts (A : Option Addr) (l : List BindD) (ca : Nat) (x : AtomD) (w : World) (hL : BL w A ca l) (hx : AtomOk x)
    (hll : l.length ≤ 9223372036854775807) (hkl : BindsOk l) :
    Calls Try.prog 8 #[.slice A l.length ca, .agg #[.string x.says, .string x.pred, .int .i64 x.n, .bool x.t0.v, .string x.t0.name, .bool x.t1.v, .string x.t1.name, .bool x.t2.v, .string x.t2.name, .bool x.t3.v, .string x.t3.name]] w fun e w' => e = .returned (.bool true) ∧ Bel w w' := by
  have hb := bel_alloc w (.cells #[.string x.says, .string x.pred, .int .i64 x.n, .bool x.t0.v, .string x.t0.name, .bool x.t1.v, .string x.t1.name, .bool x.t2.v, .string x.t2.name, .bool x.t3.v, .string x.t3.name] 43)
  have hX := AtomAt.new w x
  have HL := Lib.hid hL
  have HKL := Lib.hid hkl
  clear hL hkl
  have hLl := Lib.hid (fun W (hg : Bel w W) => lightBs_any A l ca W (HL.out.bel hg) hll HKL.out)
  have hLx := Lib.hid (fun W => light_any x W hx)
  cases hl1 : lightBs l
  · rw [hl1] at hLl
    clear hl1
    go_enter Try.func8, Try.ntmps8
    go_wp2_with (first | (go_at_call 9; refine (lives4_any _).mono ?_; rintro e w1 ⟨rfl, hg⟩; have hX := hX.bel hg; have hb := hb.trans' hg; clear hg) | (go_at_call 20; refine (hLl.out _ hb).mono ?_; rintro e w2 ⟨rfl, hg⟩; have hX := hX.bel hg; have hb := hb.trans' hg; clear hg))
    go_ret
    exact ⟨rfl, hb⟩
  rw [hl1] at hLl
  cases hx1 : lightA x
  · rw [hx1] at hLx
    clear hl1 hx1
    go_enter Try.func8, Try.ntmps8
    go_wp2_with (first | (go_at_call 9; refine (lives4_any _).mono ?_; rintro e w1 ⟨rfl, hg⟩; have hX := hX.bel hg; have hb := hb.trans' hg; clear hg) | (go_at_call 20; refine (hLl.out _ hb).mono ?_; rintro e w2 ⟨rfl, hg⟩; have hX := hX.bel hg; obtain ⟨c0, c1, c2, c3, c4, c5, c6, c7, c8, c9, c10⟩ := hX.cells; have hb := hb.trans' hg; clear hg) | (go_at_call 21; refine (hLx.out _).mono ?_; rintro e w4 ⟨rfl, hg⟩; have hb := hb.trans' hg; clear hg))
    go_ret
    exact ⟨rfl, hb⟩
  rw [hx1] at hLx
  have hl20 : l.length ≤ 20 := by
    unfold lightBs at hl1
    simp only [Bool.and_eq_true, decide_eq_true_eq] at hl1
    omega
  clear hl1 hx1 hll
  obtain ⟨vs, hvs⟩ : ∃ vs, vs = varsA x := ⟨_, rfl⟩
  have hV4 : vs.length ≤ 4 := by rw [hvs]; exact varsA_len x
  have HVS := Lib.hid hvs
  have hVars := Lib.hid (fun W => rvars_any x W _ rfl)
  rw [show namesD true ((argsD x).take (cntI x.n)) = vs from hvs.symm] at hVars
  clear hvs
  go_enter Try.func8, Try.ntmps8
  go_wp2_with (first | (go_at_call 9; refine (lives4_any _).mono ?_; rintro e w1 ⟨rfl, hg⟩; have hX := hX.bel hg; have hb := hb.trans' hg; clear hg) | (go_at_call 20; refine (hLl.out _ hb).mono ?_; rintro e w2 ⟨rfl, hg⟩; have hX := hX.bel hg; obtain ⟨c0, c1, c2, c3, c4, c5, c6, c7, c8, c9, c10⟩ := hX.cells; have hb := hb.trans' hg; clear hg) | (go_at_call 21; refine (hLx.out _).mono ?_; rintro e w4 ⟨rfl, hg⟩; have hX := hX.bel hg; obtain ⟨c0, c1, c2, c3, c4, c5, c6, c7, c8, c9, c10⟩ := hX.cells; have hb := hb.trans' hg; clear hg) | (go_at_call 35; refine (hVars.out _).mono ?_; rintro e w5 ⟨⟨V, cv, hVL, rfl⟩, hg⟩; have hX := hX.bel hg; have hb := hb.trans' hg; have HV := Lib.hid (ListAt.items hVL.out); clear hg hVL) | (go_at_call 24; refine (ownB_any A l l.length ca rfl _ (HL.out.bel hb) (by omega)).mono ?_; rintro e w6 ⟨⟨q1, k1, HO1, rfl⟩, hg⟩; have hX := hX.bel hg; have HV := Lib.hid (HV.out.bel hg); have hb := hb.trans' hg; clear hg) | (go_at_call 18; refine (Restrict_own q1 l l.length k1 rfl V vs vs.length cv rfl _ (OwnL.slice EB HO1.out) hl20 HV.out (by omega)).mono ?_; rintro e w7 ⟨⟨q2, k2, o2, HE2, HO2, rfl⟩, hg⟩; have hX := hX.bel hg; have HV := Lib.hid (HV.out.bel hg); have hb := hb.trans' hg; clear hg))
  have HX := Lib.hid hX
  have HB := Lib.hid hb
  have HM := Lib.hid (OwnL.slice EB HO2.out)
  clear hX hb HO1 HO2 hLl hLx hVars c0 c1 c2 c3 c4 c5 c6 c7 c8 c9 c10
  go_loopw [7, 8, 9, 10] (fun a7 i _ _ wr => ∃ (k : Nat) (out : List ByteArray) (q : Option Addr) (c : Nat), k ≤ l.length ∧ i = .int .i64 k ∧ a7 = .slice q out.length c ∧ RowKit.Hid (out = othersD vs (l.take k) ∧ OS w7 wr q c out)) (fun _ i _ _ _ => l.length - (intOf i).toNat)
  case atStart => exact ⟨0, [], none, 0, Nat.zero_le _, rfl, rfl, Lib.hid ⟨rfl, OS.nil _ (Below.refl _ _)⟩⟩
  case round =>
    obtain ⟨k, out, q, c, hk, rfl, rfl, H⟩ := hrel
    have HO := Lib.hid H.out.2
    have HE := Lib.hid H.out.1
    have HW : RowKit.Hid (Bel w7 wr) := Lib.hid H.out.2.bel
    clear H
    by_cases hlt : k < l.length
    · obtain ⟨b, o, rfl, hbb, hc⟩ := bl_get ((HL.out.bel HB.out).bel HW.out) (by omega)
      obtain ⟨c1, c2, c3⟩ := hc k hlt
      have hq : (0 : Int) ≤ k := by omega
      have hq2 : (k : Int) < l.length := by omega
      have HS := Lib.hid (others_succ (vs := vs) (List.getElem?_eq_getElem hlt))
      have hol : out.length ≤ 2000000 := by
        have h1 := HE.out
        have h2 := others_len vs (l.take k)
        rw [← h1, List.length_take] at h2
        omega
      clear hc hbb
      generalize l[k] = y at c1 c2 c3 HS
      obtain ⟨yv, u⟩ := y
      simp only at c1 c2 c3
      clear c2 c3
      have HC := Lib.hid c1
      clear c1
      go_wp2
      go_loopw [9, 10] (fun a9 j wr2 => ∃ jj : Nat, jj ≤ vs.length ∧ j = .int .i64 jj ∧ a9 = .bool (hit vs yv jj) ∧ RowKit.Hid (Bel wr wr2)) (fun _ j _ => vs.length - (intOf j).toNat)
      case atStart => exact ⟨0, Nat.zero_le _, rfl, rfl, Lib.hid (Below.refl _ _)⟩
      case round =>
        obtain ⟨j, hj, rfl, rfl, HJ⟩ := hrel
        have c1 := cell_bel HC.out HJ.out
        by_cases hjl : j < vs.length
        · obtain ⟨bv, ov, rfl, _, hcv⟩ := si_get ((HV.out.bel HW.out).bel HJ.out) (by omega)
          have d1 := hcv j hjl
          have HH := Lib.hid (hit_succ (x := yv) hjl)
          have hj0 : (0 : Int) ≤ j := by omega
          have hj1 : (j : Int) < vs.length := by omega
          clear hcv
          generalize vs[j] = z at d1 HH
          rcases Bool.eq_false_or_eq_true (hit vs yv j) with hh | hh
          · have HZ : RowKit.Hid (hit vs yv (j + 1) = true) := Lib.hid (by rw [HH.out, hh]; rfl)
            rw [hh]
            clear d1 c1 hj0 hj1 HC
            go_wp2
            go_quiet (fail)
            go_wp2
            go_roundw
            case rel => exact ⟨j + 1, by omega, by go_num, by rw [HZ.out], Lib.hid (HJ.out.trans' (by first | exact Below.refl _ _ | exact bel_drewN _ _))⟩
            case measure => simp [intOf]; omega
          · have HZ : RowKit.Hid (hit vs yv (j + 1) = (z.toList == yv.toList)) := Lib.hid (by rw [HH.out, hh]; rfl)
            go_wp2
            go_quiet (fail)
            go_wp2
            go_roundw
            case rel => exact ⟨j + 1, by omega, by go_num, by rw [HZ.out], Lib.hid (HJ.out.trans' (by first | exact Below.refl _ _ | exact bel_drewN _ _))⟩
            case measure => simp [intOf]; omega
        · obtain rfl : j = vs.length := by omega
          have HHA := Lib.hid (hit_all vs yv)
          have HO2' := Lib.hid (HO.out.bel' HJ.out)
          rcases Bool.eq_false_or_eq_true (hit vs yv vs.length) with hh | hh
          · have HN : RowKit.Hid (othersD vs (l.take (k + 1)) = out) := Lib.hid (by rw [HS.out, ← HE.out]; rw [← HHA.out, hh]; simp)
            go_wp2
            go_roundw
            case rel => exact ⟨k + 1, out, q, c, by omega, by go_num, rfl, Lib.hid ⟨HN.out.symm, HO2'.out⟩⟩
            case measure => simp [intOf]; omega
          · have HN : RowKit.Hid (othersD vs (l.take (k + 1)) = out ++ [yv]) := Lib.hid (by rw [HS.out, ← HE.out]; rw [← HHA.out, hh]; rfl)
            go_wp2_with (at_builtin; refine wpList_pushS rfl (.tmp 55) (.tmp 61) 39 Try.underlying39 rfl yv rfl rfl HO2'.out hol ?_; intro q' c' w9 out' HX' HO')
            go_roundw
            case rel => exact ⟨k + 1, out', q', c', by omega, by go_num, rfl, Lib.hid ⟨HX'.out.trans HN.out.symm, HO'.out⟩⟩
            case measure => simp [intOf]; omega
    · obtain rfl : k = l.length := by omega
      have HN : RowKit.Hid (out = othersD vs l) := Lib.hid (by have := HE.out; rwa [List.take_length] at this)
      have hol : out.length ≤ 20 := by
        have h2 := others_len vs l
        rw [← HN.out] at h2
        omega
      have hb := HB.out.trans' HW.out
      have hX := HX.out.bel HW.out
      have HM := Lib.hid (HM.out.bel HW.out)
      have HV2 := Lib.hid ((OwnL.slice ES HO.out).items)
      go_wp2_with (first | (go_at_call 24; refine (ownB_any A l l.length ca rfl _ (HL.out.bel hb) (by omega)).mono ?_; rintro e w8 ⟨⟨q3, k3, HO3, rfl⟩, hg⟩; have hX := hX.bel hg; have HV2 := Lib.hid (HV2.out.bel hg); have HM := Lib.hid (HM.out.bel hg); have hb := hb.trans' hg; clear hg) | (go_at_call 18; refine (Restrict_own q3 l l.length k3 rfl q out out.length c rfl _ (OwnL.slice EB HO3.out) hl20 HV2.out hol).mono ?_; rintro e w9 ⟨⟨q4, k4, o4, HE4, HO4, rfl⟩, hg⟩; have hX := hX.bel hg; obtain ⟨c0, c1, c2, c3, c4, c5, c6, c7, c8, c9, c10⟩ := hX.cells; have HM := Lib.hid (HM.out.bel hg); have hb := hb.trans' hg; clear hg))
      obtain ⟨z, hz⟩ : ∃ z, z = applyA l x := ⟨_, rfl⟩
      have HZ2 : RowKit.Hid (applyA o2 x = z) := Lib.hid (by rw [HE2.out, HVS.out, hz]; exact apply_rest l x)
      have HZ4 : RowKit.Hid (applyA o4 x = x) := Lib.hid (by rw [HE4.out, HN.out, HVS.out]; exact apply_out l x)
      have hlen : o2.length + o4.length = l.length := by rw [HE2.out, HE4.out, HN.out]; exact len_parts vs l
      have hleni : (o2.length : Int) + (o4.length : Int) = (l.length : Int) := by omega
      have hA1 := Lib.hid (fun W (hg : Bel w W) => Apply_len A l l.length ca rfl x W (HL.out.bel hg) (by omega))
      have hA2 := Lib.hid (fun W (hg : Bel w9 W) => Apply_len q2 o2 o2.length k2 rfl x W (HM.out.bel hg) (by omega))
      have hA4 := Lib.hid (fun W (hg : Bel w9 W) => Apply_len q4 o4 o4.length k4 rfl x W ((OwnL.slice EB HO4.out).bel hg) (by omega))
      rw [← hz] at hA1
      rw [HZ2.out] at hA2
      rw [HZ4.out] at hA4
      have HB9 := Lib.hid hb
      have hwr := wrap_small l.length (by omega)
      have h9 : Bel w9 w9.drew := bel_drew' (Below.refl _ _)
      have hX := hX.drew
      have hqz : eqA z z = true := (eqA_iff _ _).2 rfl
      have hqx : eqA x x = true := (eqA_iff _ _).2 rfl
      have hqq := eql_atom z z
      have hqy := eql_atom x x
      clear hz hb HZ2 HZ4 HN HE2 HE4 HO3 HO4 HV2 HM
      go_region_held3 (fun w' => (w'.cell? ⟨w.heap.size, 0, none⟩ = some (.string x.says) ∧ w'.cell? ⟨w.heap.size, 1, none⟩ = some (.string x.pred) ∧ w'.cell? ⟨w.heap.size, 2, none⟩ = some (.int .i64 x.n) ∧ w'.cell? ⟨w.heap.size, 3, none⟩ = some (.bool x.t0.v) ∧ w'.cell? ⟨w.heap.size, 4, none⟩ = some (.string x.t0.name) ∧ w'.cell? ⟨w.heap.size, 5, none⟩ = some (.bool x.t1.v) ∧ w'.cell? ⟨w.heap.size, 6, none⟩ = some (.string x.t1.name) ∧ w'.cell? ⟨w.heap.size, 7, none⟩ = some (.bool x.t2.v) ∧ w'.cell? ⟨w.heap.size, 8, none⟩ = some (.string x.t2.name) ∧ w'.cell? ⟨w.heap.size, 9, none⟩ = some (.bool x.t3.v) ∧ w'.cell? ⟨w.heap.size, 10, none⟩ = some (.string x.t3.name))) (first | exact hX.cells | go_keep | trivial)
        (first | (go_at_call_of 29 (Value.slice A l.length ca); refine (hA1.out _ (HB9.out.trans' h9)).mono ?_; rintro e w10 ⟨⟨z1, HZ1, rfl⟩, hg⟩; obtain rfl := HZ1.out; have h9 := h9.trans' hg; have hX := hX.bel hg; clear hg) | (go_at_call_of 29 (Value.slice q2 o2.length k2); refine (hA2.out _ h9).mono ?_; rintro e w11 ⟨⟨z2, HZ2, rfl⟩, hg⟩; obtain rfl := HZ2.out; have h9 := h9.trans' hg; have hX := hX.bel hg; clear hg) | (go_at_call_of 29 (Value.slice q4 o4.length k4); refine (hA4.out _ h9).mono ?_; rintro e w12 ⟨⟨z4, HZ4, rfl⟩, hg⟩; obtain rfl := HZ4.out; have h9 := h9.trans' hg; have hX := hX.bel hg; clear hg))
      all_goals go_wp2
      all_goals go_ret
      all_goals exact ⟨by first | rfl | exact congrArg Ending.returned (congrArg Value.bool (beq_iff_eq.2 hwr)), HB9.out.trans' h9⟩
end Go.Proofs.Ytdmdefdiglpgaaa
