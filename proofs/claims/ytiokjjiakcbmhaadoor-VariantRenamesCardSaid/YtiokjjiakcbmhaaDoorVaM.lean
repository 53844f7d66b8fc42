/-
  The law VariantRenames for every input. Conditions: what came in lies as its parameters' types say.
-/
import Derived.Test.YtiokjjiakcbmhaaDoorVaL
namespace Go.Proofs.YtiokjjiakcbmhaaDoor
open Go.RowKit

theorem sl_later {w : World} {b o ca : Nat} {l : List ByteArray} (h : SL w (some ⟨b, o, none⟩) ca l) : ∀ W, Bel w W → ∀ j (hj : j < l.length), W.cell? ⟨b, o + j, none⟩ = some (.string l[j]) := fun W hg j hj => by
  obtain ⟨b', o', e, _, hc⟩ := sl_get (h.bel hg) (by omega)
  injection e with e
  injection e with e1 e2
  subst e1 e2
  exact hc j hj
theorem sl_at {w : World} {A : Option Addr} {ca : Nat} {l : List ByteArray} (h : SL w A ca l) (h0 : 0 < l.length) : ∃ b o, A = some ⟨b, o, none⟩ := by
  obtain ⟨b, o, e, _, _⟩ := sl_get h h0
  exact ⟨b, o, e⟩
theorem two_shape {l : List BindD} (h : 2 ≤ l.length) : ∃ b0 b1 r, l = b0 :: b1 :: r := by
  match l, h with
  | b0 :: b1 :: r, _ => exact ⟨b0, b1, r, rfl⟩
  | [], h => exact absurd h (by simp)
  | [_], h => exact absurd h (by simp)
set_option maxRecDepth 20000 in
set_option maxHeartbeats 16000000 in
theorem lawVariantRenames (a : AtomD) (A : Option Addr) (ns : List ByteArray) (ca : Nat) (w : World) (hak : AtomOk a) (hL : SL w A ca ns) (hsz : ∀ x ∈ ns, x.size ≤ 9223372036854775807) (hll : ns.length ≤ 9223372036854775807) :
    Calls Tryd.prog 5 #[.agg #[.string a.says, .string a.pred, .int .i64 a.n, .bool a.t0.v, .string a.t0.name, .bool a.t1.v, .string a.t1.name, .bool a.t2.v, .string a.t2.name, .bool a.t3.v, .string a.t3.name], .slice A ns.length ca] w fun e w' => e = .returned (.bool true) ∧ Bel w w' := by
  have hP := AtomAt.new w a
  have hb := bel_alloc w (.cells #[.string a.says, .string a.pred, .int .i64 a.n, .bool a.t0.v, .string a.t0.name, .bool a.t1.v, .string a.t1.name, .bool a.t2.v, .string a.t2.name, .bool a.t3.v, .string a.t3.name] 27)
  have HL := Lib.hid hL
  have HZ := Lib.hid hsz
  have hLl := Lib.hid (fun W (hg : Bel w W) => lightTx_any A ns ca 9 2700 W (HL.out.bel hg).items hll HZ.out)
  have hLa := Lib.hid (fun W => light_any a W hak)
  have hKa := Lib.hid (fun W => rCheck_any a W hak)
  clear hL hsz
  cases q0 : lightA a
  case false =>
    rw [q0] at hLa
    clear q0
    go_enter Tryd.func5, Tryd.ntmps5
    go_wp2_with (fail)
    refine (lives7_any _).mono ?_
    rintro e w1 ⟨rfl, hg⟩
    have hP := hP.bel hg
    have hb := hb.trans' hg
    clear hg
    obtain ⟨c0, c1, c2, c3, c4, c5, c6, c7, c8, c9, c10⟩ := hP.cells
    go_wp2_with (fail)
    refine (hLa.out _).mono ?_
    rintro e w2 ⟨rfl, hg⟩
    have hP := hP.bel hg
    have hb := hb.trans' hg
    clear hg
    clear c0 c1 c2 c3 c4 c5 c6 c7 c8 c9 c10
    obtain ⟨c0, c1, c2, c3, c4, c5, c6, c7, c8, c9, c10⟩ := hP.cells
    go_wp2
    go_ret
    exact ⟨rfl, hb⟩
  rw [q0] at hLa
  by_cases q1 : checkD a = 0
  case neg =>
    have hz : (checkD a != 0) = true := by simpa using q1
    have hz2 : (checkD a == 0) = false := by simpa using q1
    clear q0 q1
    go_enter Tryd.func5, Tryd.ntmps5
    go_wp2_with (fail)
    refine (lives7_any _).mono ?_
    rintro e w1 ⟨rfl, hg⟩
    have hP := hP.bel hg
    have hb := hb.trans' hg
    clear hg
    obtain ⟨c0, c1, c2, c3, c4, c5, c6, c7, c8, c9, c10⟩ := hP.cells
    go_wp2_with (fail)
    refine (hLa.out _).mono ?_
    rintro e w2 ⟨rfl, hg⟩
    have hP := hP.bel hg
    have hb := hb.trans' hg
    clear hg
    clear c0 c1 c2 c3 c4 c5 c6 c7 c8 c9 c10
    obtain ⟨c0, c1, c2, c3, c4, c5, c6, c7, c8, c9, c10⟩ := hP.cells
    go_wp2_with (fail)
    refine (hKa.out _).mono ?_
    rintro e w3 ⟨rfl, hg⟩
    have hP := hP.bel hg
    have hb := hb.trans' hg
    clear hg
    clear c0 c1 c2 c3 c4 c5 c6 c7 c8 c9 c10
    go_wp2
    go_ret
    exact ⟨rfl, hb⟩
  rw [q1] at hKa
  cases q2 : lightTx ns 9 2700
  case false =>
    rw [q2] at hLl
    clear q2 q0 q1
    go_enter Tryd.func5, Tryd.ntmps5
    go_wp2_with (fail)
    refine (lives7_any _).mono ?_
    rintro e w1 ⟨rfl, hg⟩
    have hP := hP.bel hg
    have hb := hb.trans' hg
    clear hg
    obtain ⟨c0, c1, c2, c3, c4, c5, c6, c7, c8, c9, c10⟩ := hP.cells
    go_wp2_with (fail)
    refine (hLa.out _).mono ?_
    rintro e w2 ⟨rfl, hg⟩
    have hP := hP.bel hg
    have hb := hb.trans' hg
    clear hg
    clear c0 c1 c2 c3 c4 c5 c6 c7 c8 c9 c10
    obtain ⟨c0, c1, c2, c3, c4, c5, c6, c7, c8, c9, c10⟩ := hP.cells
    go_wp2_with (fail)
    refine (hKa.out _).mono ?_
    rintro e w3 ⟨rfl, hg⟩
    have hP := hP.bel hg
    have hb := hb.trans' hg
    clear hg
    clear c0 c1 c2 c3 c4 c5 c6 c7 c8 c9 c10
    go_wp2_with (fail)
    refine (hLl.out _ hb).mono ?_
    rintro e w4 ⟨rfl, hg⟩
    have hP := hP.bel hg
    have hb := hb.trans' hg
    clear hg
    obtain ⟨c0, c1, c2, c3, c4, c5, c6, c7, c8, c9, c10⟩ := hP.cells
    go_wp2
    go_ret
    exact ⟨rfl, hb⟩
  rw [q2] at hLl
  have sa := AtomOk.sm q0
  have hn9 : ns.length ≤ 9 := by have := lightTx_len q2; omega
  have HSA : RowKit.Hid (∀ t ∈ argsD a, t.name.size ≤ 9223372036854775807) := Lib.hid (big_names sa.args)
  have HSC := Lib.hid (canon_sm sa)
  obtain ⟨vs, hvs⟩ : ∃ vs, vs = varsA a := ⟨_, rfl⟩
  have hv4 : vs.length ≤ 4 := by rw [hvs]; exact vars4 a
  have HV := Lib.hid hvs
  obtain ⟨kt, hkt⟩ : ∃ k, k = textD (canonD a) := ⟨_, rfl⟩
  have HK := Lib.hid hkt
  clear q0 q1 q2 sa hvs hkt hak hll
  go_enter Tryd.func5, Tryd.ntmps5
  go_wp2_with (fail)
  refine (lives7_any _).mono ?_
  rintro e w1 ⟨rfl, hg⟩
  have hP := hP.bel hg
  have hb := hb.trans' hg
  clear hg
  obtain ⟨c0, c1, c2, c3, c4, c5, c6, c7, c8, c9, c10⟩ := hP.cells
  go_wp2_with (fail)
  refine (hLa.out _).mono ?_
  rintro e w2 ⟨rfl, hg⟩
  have hP := hP.bel hg
  have hb := hb.trans' hg
  clear hg
  clear c0 c1 c2 c3 c4 c5 c6 c7 c8 c9 c10
  obtain ⟨c0, c1, c2, c3, c4, c5, c6, c7, c8, c9, c10⟩ := hP.cells
  go_wp2_with (fail)
  refine (hKa.out _).mono ?_
  rintro e w3 ⟨rfl, hg⟩
  have hP := hP.bel hg
  have hb := hb.trans' hg
  clear hg
  clear c0 c1 c2 c3 c4 c5 c6 c7 c8 c9 c10
  go_wp2_with (fail)
  refine (hLl.out _ hb).mono ?_
  rintro e w4 ⟨rfl, hg⟩
  have hP := hP.bel hg
  have hb := hb.trans' hg
  clear hg
  obtain ⟨c0, c1, c2, c3, c4, c5, c6, c7, c8, c9, c10⟩ := hP.cells
  go_wp2_with (fail)
  refine (rvarsO_any a _).mono ?_
  rintro e w5 ⟨⟨qv, cv, HLV0, rfl⟩, hg⟩
  rw [← HV.out] at HLV0 ⊢
  have HRV := Lib.hid (HLV0.out.rowS (Nat.le_refl _))
  replace hP := hP.bel hg
  replace hb := hb.trans' hg
  clear hg HLV0 hLa hKa hLl
  clear c0 c1 c2 c3 c4 c5 c6 c7 c8 c9 c10
  by_cases hnv : ns.length < vs.length
  case pos =>
    have hq1 : (ns.length : Int) < vs.length := by omega
    go_wp2
    go_ret
    exact ⟨rfl, hb⟩
  have hq1 : ¬ (ns.length : Int) < vs.length := by omega
  have HB5 := Lib.hid hb
  have HP5 := Lib.hid hP
  have hwl := hP.lt
  clear hb hP
  go_wp2
  go_loopw [6, 7] (fun s6 s7 wr => ∃ (i : Nat) (q : Option Addr) (c : Nat) (out : List BindD), i ≤ vs.length ∧ s7 = .int .i64 i ∧ s6 = .slice q out.length c ∧ out.length = i ∧ RowKit.Hid (out = (namesB vs ns).take i ∧ OB w5 wr q c out ∧ (ns.take i).Pairwise (fun x y => x ≠ y))) (fun _ s7 _ => vs.length - (intOf s7).toNat)
  case atStart => exact ⟨0, none, 0, [], Nat.zero_le _, rfl, rfl, rfl, Lib.hid ⟨rfl, OwnL.nil _ (Below.refl _ _), List.Pairwise.nil⟩⟩
  case round =>
    obtain ⟨i, q, c, out, hi, rfl, rfl, hol, H⟩ := hrel
    have hol4 : out.length ≤ 4 := by omega
    have HOL := Lib.hid hol
    clear hol
    have HE := Lib.hid H.out.1
    have HO := Lib.hid H.out.2.1
    have HPW := Lib.hid H.out.2.2
    have HW : RowKit.Hid (Bel w5 wr) := Lib.hid HO.out.bel
    clear H
    by_cases hlt : i < vs.length
    · have hq : (0 : Int) ≤ i := by omega
      have hq2 : (i : Int) < vs.length := by omega
      have hq3 : (i : Int) < ns.length := by omega
      have hin : i < ns.length := by omega
      obtain ⟨gv, rfl, _, _, hcv⟩ := HRV.out.at (by omega)
      obtain ⟨bn, on, rfl⟩ := sl_at HL.out (by omega)
      have HNC := Lib.hid (fun W (hg : Bel w5 W) => sl_later HL.out W (HB5.out.trans' hg))
      have HVI := Lib.hid (fun W (hg : Bel w5 W) => hcv W hg i hlt)
      have HNI := Lib.hid (fun W (hg : Bel w5 W) => HNC.out W hg i hin)
      have HNX := Lib.hid (names_next (ns := ns) hlt (by omega))
      have HSZ := HZ.out _ (List.getElem_mem hin)
      clear hcv
      go_wp2
      go_loopw [8] (fun s8 wq => ∃ k : Nat, k ≤ i ∧ s8 = .int .i64 k ∧ RowKit.Hid (Bel wr wq) ∧ RowKit.Hid (∀ k' (hk : k' < ns.length), k' < k → ns[k'] ≠ ns[i])) (fun s8 _ => i - (intOf s8).toNat)
      case atStart => exact ⟨0, Nat.zero_le _, rfl, Lib.hid (Below.refl _ _), Lib.hid (fun k' _ h => absurd h (Nat.not_lt_zero _))⟩
      case round =>
        obtain ⟨k, hk, rfl, HQ, HNE⟩ := hrel
        have HWQ := Lib.hid (HW.out.trans' HQ.out)
        by_cases hlk : k < i
        · have hp : (0 : Int) ≤ k := by omega
          have hp2 : (k : Int) < i := by omega
          have hp3 : (k : Int) < ns.length := by omega
          have hkn : k < ns.length := by omega
          have c1 := HNC.out _ HWQ.out k hkn
          have c2 := HNI.out _ HWQ.out
          have HST : RowKit.Hid (ns[k] ≠ ns[i] → ∀ k' (hk : k' < ns.length), k' < k + 1 → ns[k'] ≠ ns[i]) := Lib.hid (fun hne k' hk' hlt' => by
            by_cases e : k' = k
            · subst e; exact hne
            · exact HNE.out k' hk' (by omega))
          rcases Decidable.em (ns[k] = ns[i]) with he | he
          · rw [he] at c1
            clear HST HNE
            generalize ns[i] = s at c1 c2
            have hse : (s.toList == s.toList) = true := by simp
            go_wp2
            go_quiet (fail)
            go_wp2
            go_ret
            exact ⟨rfl, HB5.out.trans' (HWQ.out.trans' (by first | exact Below.refl _ _ | exact bel_drewN _ _))⟩
          · have HN2 := Lib.hid (HST.out he)
            have hse : (ns[k].toList == ns[i].toList) = false := by
              rw [Bool.eq_false_iff]
              intro h
              exact he (ba_ext (eq_of_beq h))
            clear HST HNE he
            generalize ns[k] = s1 at c1 hse
            go_wp2
            go_quiet (fail)
            go_wp2
            go_roundw
            case rel => exact ⟨k + 1, by omega, by go_num, Lib.hid (HQ.out.trans' (by first | exact Below.refl _ _ | exact bel_drewN _ _)), HN2⟩
            case measure => simp [intOf]; omega
        · obtain rfl : k = i := by omega
          have hp2 : ¬ (k : Int) < k := by omega
          have HPN := Lib.hid (apart_next hin HPW.out HNE.out)
          have c2 := HNI.out _ HWQ.out
          have HO2 := Lib.hid (HO.out.bel' HQ.out)
          clear HNC HNE HPW
          generalize vs[k] = v at HVI HNX
          generalize ns[k] = s at HNI HNX c2 HSZ
          by_cases hs : s = emp
          · subst hs
            unfold emp at *
            go_wp2
            go_ret
            exact ⟨rfl, HB5.out.trans' HWQ.out⟩
          · have hs2 := ne_emp hs
            have hs3 : s.toList.isEmpty = false := by simpa using hs2
            have hd : Bel w5 wr.drew := bel_drew' HWQ.out
            have hd2 : Bel wr wr.drew := bel_drew' (Below.refl _ _)
            clear hs
            have d1 := HVI.out _ hd
            have d2 := HNI.out _ hd
            go_wp2
            go_region_held3 (fun w' => w'.cell? ⟨gv, k, none⟩ = some (.string v) ∧ w'.cell? ⟨bn, on + k, none⟩ = some (.string s)) (first | exact ⟨HVI.out _ HO1.out.bel, HNI.out _ HO1.out.bel⟩ | exact ⟨HVI.out _ hd, HNI.out _ hd⟩ | exact ⟨HVI.out _ (hd.trans' (bel_alloc _ _)), HNI.out _ (hd.trans' (bel_alloc _ _))⟩ | go_keep | trivial)
              (first | (go_at_call 20; refine (v_any _ _).mono ?_; rintro e w8 ⟨rfl, hg⟩; replace hd := hd.trans' hg; replace hd2 := hd2.trans' hg; have HO8 := Lib.hid (HO2.out.bel' hd2); have e1 := HVI.out _ hd; have e2 := HNI.out _ hd; clear hg) | (refine step_pushes (n := 1) (by rfl) (.tmp 57) (.tmp 68) 40 Tryd.underlying40 (by rfl) (by rfl) (by rfl) (HO8.out.bel' (bel_alloc w8 (.cells #[.string v, .bool true, .string s] 43))) (BindAt.new w8 ⟨v, ⟨true, s⟩⟩).slice rfl (by omega) ?_; intro q1 c1 w9 out1 HX1 HO1 _ _))
            all_goals
              go_wp2
              go_roundw
              case rel => exact ⟨k + 1, q1, c1, out1, by omega, by go_num, rfl, by rw [HX1.out, List.length_append, HOL.out]; rfl, Lib.hid ⟨by rw [HX1.out, HNX.out, ← HE.out], HO1.out, HPN.out⟩⟩
              case measure => simp [intOf]; omega
    · obtain rfl : i = vs.length := by omega
      have hq2 : ¬ (vs.length : Int) < vs.length := by omega
      have HEN : RowKit.Hid (out = namesB vs ns) := Lib.hid (by rw [HE.out, List.take_of_length_le (by rw [namesB_len (by omega)]; exact Nat.le_refl _)])
      have hP := HP5.out.bel HW.out
      have HBW := Lib.hid (HB5.out.trans' HW.out)
      obtain ⟨c0, c1, c2, c3, c4, c5, c6, c7, c8, c9, c10⟩ := hP.cells
      clear HE
      obtain ⟨n, hn⟩ : ∃ n, n = out.length := ⟨_, rfl⟩
      rw [← hn]
      have hn1 : n ≤ vs.length := by have := HOL.out; omega
      have hn2 : vs.length ≤ n := by have := HOL.out; omega
      have HN := Lib.hid hn
      have hAp1 := Lib.hid (fun W (h : BL W q c out) => rApply_any q out c a W h (by omega))
      rw [← hn] at hAp1
      clear hn hol4
      go_wp2_with (fail)
      refine (hAp1.out _ (OwnL.slice EB HO.out)).mono ?_
      rintro e w6 ⟨⟨y, HY, rfl⟩, hg⟩
      clear c0 c1 c2 c3 c4 c5 c6 c7 c8 c9 c10
      have hg2 := hg.trans' (bel_alloc w6 (.cells #[.string y.says, .string y.pred, .int .i64 y.n, .bool y.t0.v, .string y.t0.name, .bool y.t1.v, .string y.t1.name, .bool y.t2.v, .string y.t2.name, .bool y.t3.v, .string y.t3.name] 27))
      replace hP := hP.bel hg2
      have hY := AtomAt.new w6 y
      have HO6 := Lib.hid (HO.out.bel' hg2)
      have HB6 := Lib.hid (HBW.out.trans' hg2)
      have HYS : RowKit.Hid (∀ t ∈ argsD y, t.name.size ≤ 9223372036854775807) := Lib.hid (by rw [HY.out, HEN.out]; exact applyA_size (names_size HZ.out) HSA.out)
      have HYC : RowKit.Hid (canonD y = canonD a) := Lib.hid (by
        rw [HY.out, HEN.out, HV.out]
        exact ren_same (by rw [← HV.out]; omega) (by rw [← HV.out]; exact HPW.out))
      have hS := Lib.hid (fun W => SameW_any a y W HSA.out HYS.out)
      rw [HYC.out, eqA_self (canonD a)] at hS
      have hK1 := Lib.hid (fun W => KeyW_any a W HSA.out HSC.out)
      have hK2 := Lib.hid (fun W => KeyW_any y W HYS.out (by rw [HYC.out]; exact HSC.out))
      rw [← HK.out] at hK1
      rw [HYC.out, ← HK.out] at hK2
      have hc1 : (kt.toList != kt.toList) = false := by simp
      have hc2 : (kt.toList == kt.toList) = true := by simp
      replace hP := hP.drew
      replace hY := hY.drew
      have hd := bel_drew' (Below.refl (w6.alloc (.cells #[.string y.says, .string y.pred, .int .i64 y.n, .bool y.t0.v, .string y.t0.name, .bool y.t1.v, .string y.t1.name, .bool y.t2.v, .string y.t2.name, .bool y.t3.v, .string y.t3.name] 27)).heap.size (w6.alloc (.cells #[.string y.says, .string y.pred, .int .i64 y.n, .bool y.t0.v, .string y.t0.name, .bool y.t1.v, .string y.t1.name, .bool y.t2.v, .string y.t2.name, .bool y.t3.v, .string y.t3.name] 27)))
      clear hg hg2 HYS HYC HPW HRV HP5
      go_wp2
      go_region_held3 (fun w' => (w'.cell? ⟨w.heap.size, 0, none⟩ = some (.string a.says) ∧ w'.cell? ⟨w.heap.size, 1, none⟩ = some (.string a.pred) ∧ w'.cell? ⟨w.heap.size, 2, none⟩ = some (.int .i64 a.n) ∧ w'.cell? ⟨w.heap.size, 3, none⟩ = some (.bool a.t0.v) ∧ w'.cell? ⟨w.heap.size, 4, none⟩ = some (.string a.t0.name) ∧ w'.cell? ⟨w.heap.size, 5, none⟩ = some (.bool a.t1.v) ∧ w'.cell? ⟨w.heap.size, 6, none⟩ = some (.string a.t1.name) ∧ w'.cell? ⟨w.heap.size, 7, none⟩ = some (.bool a.t2.v) ∧ w'.cell? ⟨w.heap.size, 8, none⟩ = some (.string a.t2.name) ∧ w'.cell? ⟨w.heap.size, 9, none⟩ = some (.bool a.t3.v) ∧ w'.cell? ⟨w.heap.size, 10, none⟩ = some (.string a.t3.name)) ∧ (w'.cell? ⟨w6.heap.size, 0, none⟩ = some (.string y.says) ∧ w'.cell? ⟨w6.heap.size, 1, none⟩ = some (.string y.pred) ∧ w'.cell? ⟨w6.heap.size, 2, none⟩ = some (.int .i64 y.n) ∧ w'.cell? ⟨w6.heap.size, 3, none⟩ = some (.bool y.t0.v) ∧ w'.cell? ⟨w6.heap.size, 4, none⟩ = some (.string y.t0.name) ∧ w'.cell? ⟨w6.heap.size, 5, none⟩ = some (.bool y.t1.v) ∧ w'.cell? ⟨w6.heap.size, 6, none⟩ = some (.string y.t1.name) ∧ w'.cell? ⟨w6.heap.size, 7, none⟩ = some (.bool y.t2.v) ∧ w'.cell? ⟨w6.heap.size, 8, none⟩ = some (.string y.t2.name) ∧ w'.cell? ⟨w6.heap.size, 9, none⟩ = some (.bool y.t3.v) ∧ w'.cell? ⟨w6.heap.size, 10, none⟩ = some (.string y.t3.name))) (first | exact ⟨hP.cells, hY.cells⟩ | go_keep | trivial)
        (first | (go_at_call 11; refine (hS.out _).mono ?_; rintro e w9 ⟨rfl, hg⟩; replace hP := hP.bel hg; replace hY := hY.bel hg; replace hd := hd.trans' hg; clear hg) | (go_at_call 12; have gate := hK1; refine (hK1.out _).mono ?_; rintro e w9 ⟨rfl, hg⟩; clear gate hK1; replace hP := hP.bel hg; replace hY := hY.bel hg; replace hd := hd.trans' hg; clear hg) | (go_at_call 12; refine (hK2.out _).mono ?_; rintro e w9 ⟨rfl, hg⟩; replace hP := hP.bel hg; replace hY := hY.bel hg; replace hd := hd.trans' hg; clear hg))
      all_goals
        clear hS hc1 hc2 hY
        have HO7 := Lib.hid (HO6.out.bel' hd)
        have HB7 := Lib.hid (HB6.out.trans' hd)
        clear hd HO6 HB6
        by_cases h2 : vs.length < 2
        · have hr1 : (vs.length : Int) < 2 := by omega
          go_wp2
          go_ret
          exact ⟨rfl, HB7.out⟩
        · have hr1 : ¬ (vs.length : Int) < 2 := by omega
          have hr2 : (1 : Int) < n := by omega
          have hr3 : (0 : Int) < n := by omega
          have HTW : RowKit.Hid (eqA (canonD a) (canonD (applyA (sameTwo out) a)) = false) := Lib.hid (by rw [HEN.out, HV.out]; exact ren_two (by rw [← HV.out]; omega) (by rw [← HV.out]; omega))
          have HTS : RowKit.Hid (∀ t ∈ argsD (applyA (sameTwo out) a), t.name.size ≤ 9223372036854775807) := Lib.hid (by rw [HEN.out]; exact applyA_size (sameTwo_size (names_size HZ.out)) HSA.out)
          have HLN : RowKit.Hid (n = (sameTwo out).length) := Lib.hid (by rw [sameTwo_len]; exact HN.out)
          have hAp2 := Lib.hid (fun W (h : BL W q c (sameTwo out)) => rApply_any q (sameTwo out) c a W h (by rw [← HLN.out]; omega))
          rw [← HLN.out] at hAp2
          obtain ⟨z, hz⟩ : ∃ z, z = applyA (sameTwo out) a := ⟨_, rfl⟩
          have hSZ := Lib.hid (fun W => SameW_any a (applyA (sameTwo out) a) W HSA.out HTS.out)
          rw [HTW.out, ← hz] at hSZ
          rw [← hz] at hAp2
          clear hz HTW HTS
          obtain ⟨b0, b1, r, rfl⟩ := two_shape (l := out) (by have := HN.out; omega)
          have hrow := HO7.out.row
          rw [← HN.out] at hrow
          obtain ⟨g, cap, e, hgo, hgl, _, _⟩ := row_value HO7.out.row (by simp)
          injection e with e1 e2 e3
          subst e1
          subst e3
          clear e2
          have d1 := row_cell HO7.out.row hgo (k := 1) (u := .bool b0.t.v) rfl
          have d2 := row_cell HO7.out.row hgo (k := 2) (u := .string b0.t.name) rfl
          have d4 := row_cell HO7.out.row hgo (k := 4) (u := .bool b1.t.v) rfl
          have d5 := row_cell HO7.out.row hgo (k := 5) (u := .string b1.t.name) rfl
          have f1 := row_frozen HO7.out.row hgo 1
          have f2 := row_frozen HO7.out.row hgo 2
          have HO8 := Lib.hid (own_two HO7.out)
          have HBL8 := Lib.hid (OwnL.slice EB HO8.out)
          have hP8 : AtomAt _ w.heap.size a := hP.fr (Fr.trans (Fr.setCell (F := [g]) _ (by simp) (p := ⟨g, 1, none⟩) (.bool b1.t.v)) (Fr.setCell (F := [g]) _ (by simp) (p := ⟨g, 2, none⟩) (.string b1.t.name))) (by intro hm; have h9 := List.mem_singleton.1 hm; have := HO7.out.new g hgo; omega)
          have hb8 := HB5.out.trans' HO8.out.bel
          replace hP8 := hP8.drew
          have hd : Bel ((w9.setCell ⟨g, 1, none⟩ (.bool b1.t.v)).setCell ⟨g, 2, none⟩ (.string b1.t.name)) ((w9.setCell ⟨g, 1, none⟩ (.bool b1.t.v)).setCell ⟨g, 2, none⟩ (.string b1.t.name)).drew := bel_drew' (Below.refl _ _)
          clear hrow HO7 HB7 hb HEN HN HLN hP
          go_wp2
          go_region_held3 (fun w' => (w'.cell? ⟨w.heap.size, 0, none⟩ = some (.string a.says) ∧ w'.cell? ⟨w.heap.size, 1, none⟩ = some (.string a.pred) ∧ w'.cell? ⟨w.heap.size, 2, none⟩ = some (.int .i64 a.n) ∧ w'.cell? ⟨w.heap.size, 3, none⟩ = some (.bool a.t0.v) ∧ w'.cell? ⟨w.heap.size, 4, none⟩ = some (.string a.t0.name) ∧ w'.cell? ⟨w.heap.size, 5, none⟩ = some (.bool a.t1.v) ∧ w'.cell? ⟨w.heap.size, 6, none⟩ = some (.string a.t1.name) ∧ w'.cell? ⟨w.heap.size, 7, none⟩ = some (.bool a.t2.v) ∧ w'.cell? ⟨w.heap.size, 8, none⟩ = some (.string a.t2.name) ∧ w'.cell? ⟨w.heap.size, 9, none⟩ = some (.bool a.t3.v) ∧ w'.cell? ⟨w.heap.size, 10, none⟩ = some (.string a.t3.name))) (first | exact hP8.cells | go_keep | trivial)
            (first | (go_at_call 21; refine (hAp2.out _ (HBL8.out.bel hd)).mono ?_; rintro e w11 ⟨⟨z1, HZ1, rfl⟩, hg⟩; obtain rfl := HZ1.out; replace hP8 := hP8.bel hg; replace hd := hd.trans' hg; clear hg) | (go_at_call 11; refine (hSZ.out _).mono ?_; rintro e w11 ⟨rfl, hg⟩; replace hP8 := hP8.bel hg; replace hd := hd.trans' hg; clear hg))
          all_goals go_wp2
          all_goals go_ret
          all_goals exact ⟨rfl, hb8.trans' hd⟩
  
end Go.Proofs.YtiokjjiakcbmhaaDoor
