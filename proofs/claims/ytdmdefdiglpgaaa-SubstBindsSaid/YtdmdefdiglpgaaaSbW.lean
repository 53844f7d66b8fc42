/-
  The law SubstTwice for every input. Conditions: what came in lies as its parameters' types say.
-/
import Derived.Test.YtdmdefdiglpgaaaSbV
namespace Go.Proofs.Ytdmdefdiglpgaaa
open Go.RowKit

theorem comp_cases {a b : List BindD} (ha : checkB a = true) (hb : checkB b = true) : (∃ o n, compD a b = (o, n) ∧ o = [] ∧ n = 15) ∨ (∃ o n, compD a b = (o, n) ∧ n = 0 ∧ checkB o = true ∧ ∀ t, subT o t = subT b (subT a t)) := by
  cases h : checkB (compL a b) with
  | false => exact .inl ⟨_, _, comp_bad3 ha hb h, rfl, rfl⟩
  | true => exact .inr ⟨_, _, comp_ok ha hb h, rfl, h, comp_sub ha hb⟩
theorem compD_len (a b : List BindD) : (compD a b).1.length ≤ a.length + b.length := by
  unfold compD
  split
  · simp
  · split
    · exact compL_len a b
    · simp
set_option maxRecDepth 20000 in
set_option maxHeartbeats 8000000 in
theorem lawSubstTwice (A : Option Addr) (a : List BindD) (ca : Nat) (B : Option Addr) (b : List BindD) (cb : Nat) (x : AtomD) (w : World) (hL : BL w A ca a) (hM : BL w B cb b) (hx : AtomOk x)
    (hal : a.length ≤ 9223372036854775807) (hbl : b.length ≤ 9223372036854775807) (hka : BindsOk a) (hkb : BindsOk b) :
    Calls Try.prog 5 #[.slice A a.length ca, .slice B b.length cb, .agg #[.string x.says, .string x.pred, .int .i64 x.n, .bool x.t0.v, .string x.t0.name, .bool x.t1.v, .string x.t1.name, .bool x.t2.v, .string x.t2.name, .bool x.t3.v, .string x.t3.name]] w fun e w' => e = .returned (.bool true) ∧ Bel w w' := by
  have hb := bel_alloc w (.cells #[.string x.says, .string x.pred, .int .i64 x.n, .bool x.t0.v, .string x.t0.name, .bool x.t1.v, .string x.t1.name, .bool x.t2.v, .string x.t2.name, .bool x.t3.v, .string x.t3.name] 43)
  have hX := AtomAt.new w x
  have HL := Lib.hid hL
  have HM := Lib.hid hM
  have HKA := Lib.hid hka
  have HKB := Lib.hid hkb
  clear hL hM hka hkb
  have hLa := Lib.hid (fun W (hg : Bel w W) => lightBs_any A a ca W (HL.out.bel hg) hal HKA.out)
  have hLb := Lib.hid (fun W (hg : Bel w W) => lightBs_any B b cb W (HM.out.bel hg) hbl HKB.out)
  cases ha : lightBs a
  · rw [ha] at hLa
    clear ha
    go_enter Try.func5, Try.ntmps5
    go_wp2_with (first | (go_at_call 9; refine (lives4_any _).mono ?_; rintro e w1 ⟨rfl, hg⟩; have hb := hb.trans' hg; clear hg) | (go_at_call 20; refine (hLa.out _ hb).mono ?_; rintro e w2 ⟨rfl, hg⟩; have hb := hb.trans' hg; clear hg))
    go_ret
    exact ⟨rfl, hb⟩
  rw [ha] at hLa
  cases hbb : lightBs b
  · rw [hbb] at hLb
    clear ha hbb
    go_enter Try.func5, Try.ntmps5
    go_wp2_with (first | (go_at_call 9; refine (lives4_any _).mono ?_; rintro e w1 ⟨rfl, hg⟩; have hb := hb.trans' hg; clear hg) | (go_at_call_of 20 (Value.slice A a.length ca); refine (hLa.out _ hb).mono ?_; rintro e w2 ⟨rfl, hg⟩; have hb := hb.trans' hg; clear hg) | (go_at_call_of 20 (Value.slice B b.length cb); refine (hLb.out _ hb).mono ?_; rintro e w3 ⟨rfl, hg⟩; have hb := hb.trans' hg; clear hg))
    go_ret
    exact ⟨rfl, hb⟩
  rw [hbb] at hLb
  have hLx := Lib.hid (fun W => light_any x W hx)
  cases hxx : lightA x
  · rw [hxx] at hLx
    clear ha hbb hxx
    go_enter Try.func5, Try.ntmps5
    go_wp2_with (first | (go_at_call 9; refine (lives4_any _).mono ?_; rintro e w1 ⟨rfl, hg⟩; have hX := hX.bel hg; have hb := hb.trans' hg; clear hg) | (go_at_call_of 20 (Value.slice A a.length ca); refine (hLa.out _ hb).mono ?_; rintro e w2 ⟨rfl, hg⟩; have hX := hX.bel hg; have hb := hb.trans' hg; clear hg) | (go_at_call_of 20 (Value.slice B b.length cb); refine (hLb.out _ hb).mono ?_; rintro e w3 ⟨rfl, hg⟩; have hX := hX.bel hg; obtain ⟨c0, c1, c2, c3, c4, c5, c6, c7, c8, c9, c10⟩ := hX.cells; have hb := hb.trans' hg; clear hg) | (go_at_call 21; refine (hLx.out _).mono ?_; rintro e w4 ⟨rfl, hg⟩; have hb := hb.trans' hg; clear hg))
    go_ret
    exact ⟨rfl, hb⟩
  rw [hxx] at hLx
  have hal20 : a.length ≤ 20 := by
    unfold lightBs at ha
    simp only [Bool.and_eq_true, decide_eq_true_eq] at ha
    omega
  have hbl20 : b.length ≤ 20 := by
    unfold lightBs at hbb
    simp only [Bool.and_eq_true, decide_eq_true_eq] at hbb
    omega
  clear ha hbb hxx hal hbl
  obtain ⟨P, hP⟩ : ∃ P, P = madeL a := ⟨_, rfl⟩
  obtain ⟨Q, hQ⟩ : ∃ Q, Q = madeL b := ⟨_, rfl⟩
  have hMa := Lib.hid (fun W (hg : Bel w W) => made4_any A a ca W (HL.out.bel hg) (by omega))
  have hMb := Lib.hid (fun W (hg : Bel w W) => made4_any B b cb W (HM.out.bel hg) (by omega))
  have HPc : RowKit.Hid (checkB P = true) := Lib.hid (by rw [hP]; exact made_check a)
  have HQc : RowKit.Hid (checkB Q = true) := Lib.hid (by rw [hQ]; exact made_check b)
  have HPe : RowKit.Hid (errB P = 0) := Lib.hid (errB_ok HPc.out)
  have HPQ : RowKit.Hid (P = madeL a ∧ Q = madeL b) := Lib.hid ⟨hP, hQ⟩
  have hcc := comp_cases HPc.out HQc.out
  have HCL := Lib.hid (compD_len P Q)
  obtain ⟨y, hy⟩ : ∃ y, y = applyA P x := ⟨_, rfl⟩
  have HY2 : RowKit.Hid (applyA P y = y) := Lib.hid (by rw [hy]; exact apply_twice HPc.out x)
  have HY := Lib.hid hy
  clear hP hQ hy
  have hqe : eqA y y = true := (eqA_iff _ _).2 rfl
  have hqn := neq_atom y y
  have hgy : w.heap.size < w.heap.size + 1 := by omega
  go_enter Try.func5, Try.ntmps5
  go_wp2_with (first | (go_at_call 9; refine (lives4_any _).mono ?_; rintro e w1 ⟨rfl, hg⟩; have hX := hX.bel hg; have hb := hb.trans' hg; clear hg) | (go_at_call_of 20 (Value.slice A a.length ca); refine (hLa.out _ hb).mono ?_; rintro e w2 ⟨rfl, hg⟩; have hX := hX.bel hg; have hb := hb.trans' hg; clear hg) | (go_at_call_of 20 (Value.slice B b.length cb); refine (hLb.out _ hb).mono ?_; rintro e w3 ⟨rfl, hg⟩; have hX := hX.bel hg; obtain ⟨c0, c1, c2, c3, c4, c5, c6, c7, c8, c9, c10⟩ := hX.cells; have hb := hb.trans' hg; clear hg) | (go_at_call 21; refine (hLx.out _).mono ?_; rintro e w4 ⟨rfl, hg⟩; have hX := hX.bel hg; have hb := hb.trans' hg; clear hg) | (go_at_call_of 32 (Value.slice A a.length ca); refine (hMa.out _ hb).mono ?_; rintro e w5 ⟨⟨q1, k1, o1, HO1, HB1, rfl⟩, hg⟩; obtain rfl : o1 = P := HO1.out.1.trans HPQ.out.1.symm; have hX := hX.bel hg; have hb := hb.trans' hg; clear hg) | (go_at_call_of 32 (Value.slice B b.length cb); refine (hMb.out _ hb).mono ?_; rintro e w6 ⟨⟨q2, k2, o2, HO2, HB2, rfl⟩, hg⟩; obtain rfl : o2 = Q := HO2.out.1.trans HPQ.out.2.symm; have HB1 := Lib.hid (HB1.out.bel hg); have hX := hX.bel hg; obtain ⟨c0, c1, c2, c3, c4, c5, c6, c7, c8, c9, c10⟩ := hX.cells; have hb := hb.trans' hg; clear hg))
  have hl1 : o1.length ≤ 100000 := Nat.le_trans HO1.out.2 (by omega)
  have hl2 : o2.length ≤ 100000 := Nat.le_trans HO2.out.2 (by omega)
  have hA1 := Lib.hid (Apply_any q1 o1 k1 x w6 HB1.out (by omega))
  refine hA1.out.mono ?_
  rintro e w7 ⟨⟨y1, HY1, rfl⟩, hg⟩
  obtain rfl : y1 = y := HY1.out.trans HY.out.symm
  have HB7 := Lib.hid (hg.trans' (bel_alloc w7 (.cells #[.string y1.says, .string y1.pred, .int .i64 y1.n, .bool y1.t0.v, .string y1.t0.name, .bool y1.t1.v, .string y1.t1.name, .bool y1.t2.v, .string y1.t2.name, .bool y1.t3.v, .string y1.t3.name] 43)))
  have HB1 := Lib.hid (HB1.out.bel HB7.out)
  have HB2 := Lib.hid (HB2.out.bel HB7.out)
  have hX := hX.bel HB7.out
  have hb := hb.trans' HB7.out
  have hY := AtomAt.new w7 y1
  clear hg HB7 hLa hLb hLx hMa hMb hA1
  obtain ⟨w8, hw8⟩ : ∃ w8, w8 = w7.alloc (.cells #[.string y1.says, .string y1.pred, .int .i64 y1.n, .bool y1.t0.v, .string y1.t0.name, .bool y1.t1.v, .string y1.t1.name, .bool y1.t2.v, .string y1.t2.name, .bool y1.t3.v, .string y1.t3.name] 43) := ⟨_, rfl⟩
  rw [← hw8] at HB1 HB2 hX hb hY
  have hC1 := Lib.hid (fun W (hg : Bel w8 W) => Check_any q1 o1 k1 W (HB1.out.bel hg) (by omega))
  rw [HPe.out] at hC1
  have hA2 := Lib.hid (fun W (hg : Bel w8 W) => Apply_any q1 o1 k1 y1 W (HB1.out.bel hg) (by omega))
  rw [HY2.out] at hA2
  obtain ⟨f0, f1, f2, f3, f4, f5, f6, f7, f8, f9, f10⟩ := hY.cells
  go_wp2
  rw [← hw8]
  clear hw8
  have h8 : Bel w8 w8.drew := bel_drew' (Below.refl _ _)
  have hY := hY.drew
  go_region_held3 (fun w' => (w'.cell? ⟨w7.heap.size, 0, none⟩ = some (.string y1.says) ∧ w'.cell? ⟨w7.heap.size, 1, none⟩ = some (.string y1.pred) ∧ w'.cell? ⟨w7.heap.size, 2, none⟩ = some (.int .i64 y1.n) ∧ w'.cell? ⟨w7.heap.size, 3, none⟩ = some (.bool y1.t0.v) ∧ w'.cell? ⟨w7.heap.size, 4, none⟩ = some (.string y1.t0.name) ∧ w'.cell? ⟨w7.heap.size, 5, none⟩ = some (.bool y1.t1.v) ∧ w'.cell? ⟨w7.heap.size, 6, none⟩ = some (.string y1.t1.name) ∧ w'.cell? ⟨w7.heap.size, 7, none⟩ = some (.bool y1.t2.v) ∧ w'.cell? ⟨w7.heap.size, 8, none⟩ = some (.string y1.t2.name) ∧ w'.cell? ⟨w7.heap.size, 9, none⟩ = some (.bool y1.t3.v) ∧ w'.cell? ⟨w7.heap.size, 10, none⟩ = some (.string y1.t3.name))) (first | exact hY.cells | go_keep | trivial)
    (first | (go_at_call 19; refine (hC1.out _ h8).mono ?_; rintro e w9 ⟨rfl, hg⟩; have h8 := h8.trans' hg; have hY := hY.bel hg; clear hg) | (go_at_call 29; refine (hA2.out _ h8).mono ?_; rintro e w9 ⟨⟨y2, HY3, rfl⟩, hg⟩; obtain rfl := HY3.out; have h8 := h8.trans' hg; have hY := hY.bel hg; clear hg))
  all_goals
    have HB1 := Lib.hid (HB1.out.bel h8)
    have HB2 := Lib.hid (HB2.out.bel h8)
    have hX := hX.bel h8
    have hb := hb.trans' h8
    clear hC1 hA2 f0 f1 f2 f3 f4 f5 f6 f7 f8 f9 f10
  rcases hcc with ⟨o, n, hcd, rfl, rfl⟩ | ⟨o, n, hcd, rfl, hck, hcs⟩
  · have HCD := Lib.hid hcd
    clear hcd
    go_wp2_with (first | (go_at_call_of 24 (Value.slice q1 o1.length k1); refine (ownB_any q1 o1 o1.length k1 rfl _ HB1.out hl1).mono ?_; rintro e w10 ⟨⟨q3, k3, HO3, rfl⟩, hg⟩; have HB2 := Lib.hid (HB2.out.bel hg); have hX := hX.bel hg; have hY := hY.bel hg; have hb := hb.trans' hg; clear hg) | (go_at_call 24; refine (ownB_any q2 o2 o2.length k2 rfl _ HB2.out hl2).mono ?_; rintro e w11 ⟨⟨q4, k4, HO4, rfl⟩, hg⟩; have HO3 := Lib.hid (HO3.out.bel' hg); have HB2 := Lib.hid (HB2.out.bel hg); have hX := hX.bel hg; have hY := hY.bel hg; have hb := hb.trans' hg; clear hg) | (go_at_call 14; refine (Compose_any q3 o1 k3 q4 o2 k4 _ (OwnL.slice EB HO3.out) hl1 (OwnL.slice EB HO4.out) hl2).mono ?_; rintro e w12 ⟨⟨q5, k5, o5, n5, HE5, HO5, rfl⟩, hg⟩; obtain ⟨rfl, rfl⟩ := Prod.mk.inj (HE5.out.trans HCD.out); have HB2 := Lib.hid (HB2.out.bel hg); have hX := hX.bel hg; have hY := hY.bel hg; have hb := hb.trans' hg; clear hg))
    go_ret
    exact ⟨rfl, hb⟩
  · have HCD := Lib.hid hcd
    have HCE : RowKit.Hid (errB o = 0) := Lib.hid (errB_ok hck)
    have HCS : RowKit.Hid (applyA o2 y2 = applyA o x) := Lib.hid (by rw [HY.out]; exact (apply_comp hcs x).symm)
    have HOL : RowKit.Hid (o.length ≤ 200000) := Lib.hid (by have := HCL.out; rw [hcd] at this; simp only at this; omega)
    clear hcd hck hcs
    go_wp2_with (first | (go_at_call_of 24 (Value.slice q1 o1.length k1); refine (ownB_any q1 o1 o1.length k1 rfl _ HB1.out hl1).mono ?_; rintro e w10 ⟨⟨q3, k3, HO3, rfl⟩, hg⟩; have HB2 := Lib.hid (HB2.out.bel hg); have hX := hX.bel hg; have hY := hY.bel hg; have hb := hb.trans' hg; clear hg) | (go_at_call 24; refine (ownB_any q2 o2 o2.length k2 rfl _ HB2.out hl2).mono ?_; rintro e w11 ⟨⟨q4, k4, HO4, rfl⟩, hg⟩; have HO3 := Lib.hid (HO3.out.bel' hg); have HB2 := Lib.hid (HB2.out.bel hg); have hX := hX.bel hg; have hY := hY.bel hg; have hb := hb.trans' hg; clear hg) | (go_at_call 14; refine (Compose_any q3 o1 k3 q4 o2 k4 _ (OwnL.slice EB HO3.out) hl1 (OwnL.slice EB HO4.out) hl2).mono ?_; rintro e w12 ⟨⟨q5, k5, o5, n5, HE5, HO5, rfl⟩, hg⟩; obtain ⟨rfl, rfl⟩ := Prod.mk.inj (HE5.out.trans HCD.out); have HB2 := Lib.hid (HB2.out.bel hg); have hX := hX.bel hg; have hY := hY.bel hg; have hb := hb.trans' hg; clear hg))
    have hC2 := Lib.hid (fun W (hg : Bel w12 W) => Check_any q5 o5 k5 W ((OwnL.slice EB HO5.out).bel hg) (Nat.le_trans HOL.out (by omega)))
    rw [HCE.out] at hC2
    obtain ⟨z, hz⟩ : ∃ z, z = applyA o5 x := ⟨_, rfl⟩
    have hA3 := Lib.hid (fun W (hg : Bel w12 W) => Apply_any q5 o5 k5 x W ((OwnL.slice EB HO5.out).bel hg) (Nat.le_trans HOL.out (by omega)))
    have hA4 := Lib.hid (fun W (hg : Bel w12 W) => Apply_any q2 o2 k2 y2 W (HB2.out.bel hg) (by omega))
    rw [HCS.out] at hA4
    rw [← hz] at hA3 hA4
    clear hz
    have hqz : eqA z z = true := (eqA_iff _ _).2 rfl
    have hqq := eql_atom z z
    have h12 : Bel w12 w12.drew := bel_drew' (Below.refl _ _)
    obtain ⟨f0, f1, f2, f3, f4, f5, f6, f7, f8, f9, f10⟩ := hY.cells
    obtain ⟨c0, c1, c2, c3, c4, c5, c6, c7, c8, c9, c10⟩ := hX.cells
    have hX := hX.drew
    have hY := hY.drew
    go_region_held3 (fun w' => (w'.cell? ⟨w.heap.size, 0, none⟩ = some (.string x.says) ∧ w'.cell? ⟨w.heap.size, 1, none⟩ = some (.string x.pred) ∧ w'.cell? ⟨w.heap.size, 2, none⟩ = some (.int .i64 x.n) ∧ w'.cell? ⟨w.heap.size, 3, none⟩ = some (.bool x.t0.v) ∧ w'.cell? ⟨w.heap.size, 4, none⟩ = some (.string x.t0.name) ∧ w'.cell? ⟨w.heap.size, 5, none⟩ = some (.bool x.t1.v) ∧ w'.cell? ⟨w.heap.size, 6, none⟩ = some (.string x.t1.name) ∧ w'.cell? ⟨w.heap.size, 7, none⟩ = some (.bool x.t2.v) ∧ w'.cell? ⟨w.heap.size, 8, none⟩ = some (.string x.t2.name) ∧ w'.cell? ⟨w.heap.size, 9, none⟩ = some (.bool x.t3.v) ∧ w'.cell? ⟨w.heap.size, 10, none⟩ = some (.string x.t3.name)) ∧ (w'.cell? ⟨w7.heap.size, 0, none⟩ = some (.string y2.says) ∧ w'.cell? ⟨w7.heap.size, 1, none⟩ = some (.string y2.pred) ∧ w'.cell? ⟨w7.heap.size, 2, none⟩ = some (.int .i64 y2.n) ∧ w'.cell? ⟨w7.heap.size, 3, none⟩ = some (.bool y2.t0.v) ∧ w'.cell? ⟨w7.heap.size, 4, none⟩ = some (.string y2.t0.name) ∧ w'.cell? ⟨w7.heap.size, 5, none⟩ = some (.bool y2.t1.v) ∧ w'.cell? ⟨w7.heap.size, 6, none⟩ = some (.string y2.t1.name) ∧ w'.cell? ⟨w7.heap.size, 7, none⟩ = some (.bool y2.t2.v) ∧ w'.cell? ⟨w7.heap.size, 8, none⟩ = some (.string y2.t2.name) ∧ w'.cell? ⟨w7.heap.size, 9, none⟩ = some (.bool y2.t3.v) ∧ w'.cell? ⟨w7.heap.size, 10, none⟩ = some (.string y2.t3.name))) (first | exact ⟨hX.cells, hY.cells⟩ | go_keep | trivial)
      (first | (go_at_call 19; refine (hC2.out _ h12).mono ?_; rintro e w13 ⟨rfl, hg⟩; have h12 := h12.trans' hg; have hX := hX.bel hg; have hY := hY.bel hg; clear hg) | (go_at_call_of 29 (Value.slice q5 o5.length k5); refine (hA3.out _ h12).mono ?_; rintro e w14 ⟨⟨z1, HZ1, rfl⟩, hg⟩; obtain rfl := HZ1.out; have h12 := h12.trans' hg; have hX := hX.bel hg; have hY := hY.bel hg; clear hg) | (go_at_call 29; refine (hA4.out _ h12).mono ?_; rintro e w14 ⟨⟨z2, HZ2, rfl⟩, hg⟩; obtain rfl := HZ2.out; have h12 := h12.trans' hg; have hX := hX.bel hg; have hY := hY.bel hg; clear hg))
    all_goals go_wp2
    all_goals go_ret
    all_goals exact ⟨rfl, hb.trans' h12⟩
end Go.Proofs.Ytdmdefdiglpgaaa
