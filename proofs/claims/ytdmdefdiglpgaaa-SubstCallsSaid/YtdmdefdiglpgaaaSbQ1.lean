/-
  The law SubstCalls for every input. Conditions: what came in lies as its parameters' types say.
-/
import Derived.Test.YtdmdefdiglpgaaaSbP2
import Derived.Test.YtdmdefdiglpgaaaSbY1
import Derived.Test.YtdmdefdiglpgaaaSbY3
import Derived.Test.YtdmdefdiglpgaaaSbY4
import Derived.Test.YtdmdefdiglpgaaaSbY5
namespace Go.Proofs.Ytdmdefdiglpgaaa
open Go.RowKit

theorem compD_len' (a b : List BindD) : (compD a b).1.length ≤ a.length + b.length := by
  unfold compD
  split
  · simp
  · split
    · exact compL_len a b
    · simp
set_option maxRecDepth 20000 in
set_option maxHeartbeats 32000000 in
theorem lawSubstCalls (A : Option Addr) (a : List BindD) (ca : Nat) (B : Option Addr) (b : List BindD) (cb : Nat) (x : AtomD) (v : ByteArray) (tv : Bool) (ts : ByteArray) (V : Option Addr) (vs : List ByteArray) (cv : Nat) (w : World)
    (hL : BL w A ca a) (hM : BL w B cb b) (hx : AtomOk x) (hV : SL w V cv vs) (hal : a.length ≤ 9223372036854775807) (hbl : b.length ≤ 9223372036854775807) (hka : BindsOk a) (hkb : BindsOk b)
    (hvz : v.size ≤ 9223372036854775807) (htz : ts.size ≤ 9223372036854775807) (hvl : vs.length ≤ 9223372036854775807) (hvk : ∀ s ∈ vs, s.size ≤ 9223372036854775807) :
    Calls Try.prog 4 #[.slice A a.length ca, .slice B b.length cb, .agg #[.string x.says, .string x.pred, .int .i64 x.n, .bool x.t0.v, .string x.t0.name, .bool x.t1.v, .string x.t1.name, .bool x.t2.v, .string x.t2.name, .bool x.t3.v, .string x.t3.name], .string v, .agg #[.bool tv, .string ts], .slice V vs.length cv] w fun e w' => e = .returned (.bool true) ∧ Bel w w' := by
  have hb1 := bel_alloc w (.cells #[.string x.says, .string x.pred, .int .i64 x.n, .bool x.t0.v, .string x.t0.name, .bool x.t1.v, .string x.t1.name, .bool x.t2.v, .string x.t2.name, .bool x.t3.v, .string x.t3.name] 43)
  have hb2 := bel_alloc (w.alloc (.cells #[.string x.says, .string x.pred, .int .i64 x.n, .bool x.t0.v, .string x.t0.name, .bool x.t1.v, .string x.t1.name, .bool x.t2.v, .string x.t2.name, .bool x.t3.v, .string x.t3.name] 43)) (.cells #[.bool tv, .string ts] 29)
  have hb := hb1.trans' hb2
  have hX : AtomAt ((w.alloc (.cells #[.string x.says, .string x.pred, .int .i64 x.n, .bool x.t0.v, .string x.t0.name, .bool x.t1.v, .string x.t1.name, .bool x.t2.v, .string x.t2.name, .bool x.t3.v, .string x.t3.name] 43)).alloc (.cells #[.bool tv, .string ts] 29)) w.heap.size x := (AtomAt.new w x).bel hb2
  have hT := TermAt.new (w.alloc (.cells #[.string x.says, .string x.pred, .int .i64 x.n, .bool x.t0.v, .string x.t0.name, .bool x.t1.v, .string x.t1.name, .bool x.t2.v, .string x.t2.name, .bool x.t3.v, .string x.t3.name] 43)) ⟨tv, ts⟩
  rw [show (w.alloc (.cells #[.string x.says, .string x.pred, .int .i64 x.n, .bool x.t0.v, .string x.t0.name, .bool x.t1.v, .string x.t1.name, .bool x.t2.v, .string x.t2.name, .bool x.t3.v, .string x.t3.name] 43)).heap.size = w.heap.size + 1 by simp] at hT
  clear hb1 hb2
  have HL := Lib.hid hL
  have HM := Lib.hid hM
  have HV := Lib.hid hV.items
  have HKA := Lib.hid hka
  have HKB := Lib.hid hkb
  have HVK := Lib.hid hvk
  clear hL hM hV hka hkb hvk
  have hLa := Lib.hid (fun W (hg : Bel w W) => lightBs_any A a ca W (HL.out.bel hg) hal HKA.out)
  have hLb := Lib.hid (fun W (hg : Bel w W) => lightBs_any B b cb W (HM.out.bel hg) hbl HKB.out)
  have hLx := Lib.hid (fun W => light_any x W hx)
  have hLv := Lib.hid (fun W (hg : Bel w W) => lightTx_any V vs cv 20 2000 W (HV.out.bel hg) hvl HVK.out)
  have hgt : w.heap.size < w.heap.size + 1 := by omega
  cases ha : lightBs a
  · rw [ha] at hLa
    clear ha
    go_enter Try.func4, Try.ntmps4
    go_wp2_with (first | (go_at_call 9; refine (lives4_any _).mono ?_; rintro e w1 ⟨rfl, hg⟩; have hT := hT.bel hg; have hX := hX.bel hg; have hb := hb.trans' hg; clear hg) | (go_at_call_of 20 (Value.slice A a.length ca); refine (hLa.out _ hb).mono ?_; rintro e w2 ⟨rfl, hg⟩; have hT := hT.bel hg; have hX := hX.bel hg; have hb := hb.trans' hg; clear hg))
    go_ret
    exact ⟨rfl, hb⟩
  rw [ha] at hLa
  cases hbb : lightBs b
  · rw [hbb] at hLb
    clear ha hbb
    go_enter Try.func4, Try.ntmps4
    go_wp2_with (first | (go_at_call 9; refine (lives4_any _).mono ?_; rintro e w1 ⟨rfl, hg⟩; have hT := hT.bel hg; have hX := hX.bel hg; have hb := hb.trans' hg; clear hg) | (go_at_call_of 20 (Value.slice A a.length ca); refine (hLa.out _ hb).mono ?_; rintro e w2 ⟨rfl, hg⟩; have hT := hT.bel hg; have hX := hX.bel hg; have hb := hb.trans' hg; clear hg) | (go_at_call_of 20 (Value.slice B b.length cb); refine (hLb.out _ hb).mono ?_; rintro e w3 ⟨rfl, hg⟩; have hT := hT.bel hg; have hX := hX.bel hg; have hb := hb.trans' hg; obtain ⟨c0, c1, c2, c3, c4, c5, c6, c7, c8, c9, c10⟩ := hX.cells; clear hg))
    go_ret
    exact ⟨rfl, hb⟩
  rw [hbb] at hLb
  cases hxx : lightA x
  · rw [hxx] at hLx
    clear ha hbb hxx
    go_enter Try.func4, Try.ntmps4
    go_wp2_with (first | (go_at_call 9; refine (lives4_any _).mono ?_; rintro e w1 ⟨rfl, hg⟩; have hT := hT.bel hg; have hX := hX.bel hg; have hb := hb.trans' hg; clear hg) | (go_at_call_of 20 (Value.slice A a.length ca); refine (hLa.out _ hb).mono ?_; rintro e w2 ⟨rfl, hg⟩; have hT := hT.bel hg; have hX := hX.bel hg; have hb := hb.trans' hg; clear hg) | (go_at_call_of 20 (Value.slice B b.length cb); refine (hLb.out _ hb).mono ?_; rintro e w3 ⟨rfl, hg⟩; have hT := hT.bel hg; have hX := hX.bel hg; have hb := hb.trans' hg; obtain ⟨c0, c1, c2, c3, c4, c5, c6, c7, c8, c9, c10⟩ := hX.cells; clear hg) | (go_at_call 21; refine (hLx.out _).mono ?_; rintro e w4 ⟨rfl, hg⟩; have hT := hT.bel hg; have hX := hX.bel hg; have hb := hb.trans' hg; have d0 : World.cell? _ _ = some (.bool tv) := hT.cells.1; have d1 : World.cell? _ _ = some (.string ts) := hT.cells.2; clear hg))
    go_ret
    exact ⟨rfl, hb⟩
  rw [hxx] at hLx
  by_cases hv3 : (v.size : Int) ≤ 300
  case neg =>
    clear ha hbb hxx
    go_enter Try.func4, Try.ntmps4
    go_wp2_with (first | (go_at_call 9; refine (lives4_any _).mono ?_; rintro e w1 ⟨rfl, hg⟩; have hT := hT.bel hg; have hX := hX.bel hg; have hb := hb.trans' hg; clear hg) | (go_at_call_of 20 (Value.slice A a.length ca); refine (hLa.out _ hb).mono ?_; rintro e w2 ⟨rfl, hg⟩; have hT := hT.bel hg; have hX := hX.bel hg; have hb := hb.trans' hg; clear hg) | (go_at_call_of 20 (Value.slice B b.length cb); refine (hLb.out _ hb).mono ?_; rintro e w3 ⟨rfl, hg⟩; have hT := hT.bel hg; have hX := hX.bel hg; have hb := hb.trans' hg; obtain ⟨c0, c1, c2, c3, c4, c5, c6, c7, c8, c9, c10⟩ := hX.cells; clear hg) | (go_at_call 21; refine (hLx.out _).mono ?_; rintro e w4 ⟨rfl, hg⟩; have hT := hT.bel hg; have hX := hX.bel hg; have hb := hb.trans' hg; have d0 : World.cell? _ _ = some (.bool tv) := hT.cells.1; have d1 : World.cell? _ _ = some (.string ts) := hT.cells.2; clear hg))
    go_ret
    exact ⟨rfl, hb⟩
  by_cases ht3 : (ts.size : Int) ≤ 300
  case neg =>
    clear ha hbb hxx
    go_enter Try.func4, Try.ntmps4
    go_wp2_with (first | (go_at_call 9; refine (lives4_any _).mono ?_; rintro e w1 ⟨rfl, hg⟩; have hT := hT.bel hg; have hX := hX.bel hg; have hb := hb.trans' hg; clear hg) | (go_at_call_of 20 (Value.slice A a.length ca); refine (hLa.out _ hb).mono ?_; rintro e w2 ⟨rfl, hg⟩; have hT := hT.bel hg; have hX := hX.bel hg; have hb := hb.trans' hg; clear hg) | (go_at_call_of 20 (Value.slice B b.length cb); refine (hLb.out _ hb).mono ?_; rintro e w3 ⟨rfl, hg⟩; have hT := hT.bel hg; have hX := hX.bel hg; have hb := hb.trans' hg; obtain ⟨c0, c1, c2, c3, c4, c5, c6, c7, c8, c9, c10⟩ := hX.cells; clear hg) | (go_at_call 21; refine (hLx.out _).mono ?_; rintro e w4 ⟨rfl, hg⟩; have hT := hT.bel hg; have hX := hX.bel hg; have hb := hb.trans' hg; have d0 : World.cell? _ _ = some (.bool tv) := hT.cells.1; have d1 : World.cell? _ _ = some (.string ts) := hT.cells.2; clear hg))
    go_ret
    exact ⟨rfl, hb⟩
  cases hvv : lightTx vs 20 2000
  · rw [hvv] at hLv
    clear ha hbb hxx hvv
    go_enter Try.func4, Try.ntmps4
    go_wp2_with (first | (go_at_call 9; refine (lives4_any _).mono ?_; rintro e w1 ⟨rfl, hg⟩; have hT := hT.bel hg; have hX := hX.bel hg; have hb := hb.trans' hg; clear hg) | (go_at_call_of 20 (Value.slice A a.length ca); refine (hLa.out _ hb).mono ?_; rintro e w2 ⟨rfl, hg⟩; have hT := hT.bel hg; have hX := hX.bel hg; have hb := hb.trans' hg; clear hg) | (go_at_call_of 20 (Value.slice B b.length cb); refine (hLb.out _ hb).mono ?_; rintro e w3 ⟨rfl, hg⟩; have hT := hT.bel hg; have hX := hX.bel hg; have hb := hb.trans' hg; obtain ⟨c0, c1, c2, c3, c4, c5, c6, c7, c8, c9, c10⟩ := hX.cells; clear hg) | (go_at_call 21; refine (hLx.out _).mono ?_; rintro e w4 ⟨rfl, hg⟩; have hT := hT.bel hg; have hX := hX.bel hg; have hb := hb.trans' hg; have d0 : World.cell? _ _ = some (.bool tv) := hT.cells.1; have d1 : World.cell? _ _ = some (.string ts) := hT.cells.2; clear hg) | (go_at_call 22; refine (hLv.out _ hb).mono ?_; rintro e w5 ⟨rfl, hg⟩; have hT := hT.bel hg; have hX := hX.bel hg; have hb := hb.trans' hg; have d0 : World.cell? _ _ = some (.bool tv) := hT.cells.1; have d1 : World.cell? _ _ = some (.string ts) := hT.cells.2; clear hg))
    go_ret
    exact ⟨rfl, hb⟩
  rw [hvv] at hLv
  have hal20 : a.length ≤ 20 := by
    unfold lightBs at ha
    simp only [Bool.and_eq_true, decide_eq_true_eq] at ha
    omega
  have hbl20 : b.length ≤ 20 := by
    unfold lightBs at hbb
    simp only [Bool.and_eq_true, decide_eq_true_eq] at hbb
    omega
  have hvl20 : vs.length ≤ 20 := by
    have := lightTx_len hvv
    omega
  clear ha hbb hxx hvv hal hbl hvl hvz htz
  obtain ⟨r, hr⟩ : ∃ r, r = getR a v := ⟨_, rfl⟩
  have hG := Lib.hid (fun W (hg : Bel w W) => Get_any A a a.length ca rfl v W (HL.out.bel hg) (by omega))
  have hrG := Lib.hid (fun W (hg : Bel w W) => rGet_any A a a.length ca rfl v W (HL.out.bel hg) (by omega))
  rw [← hr] at hG hrG
  clear hr
  obtain ⟨r1, r2⟩ := r
  go_enter Try.func4, Try.ntmps4
  go_wp2_with (first | (go_at_call 9; refine (lives4_any _).mono ?_; rintro e w1 ⟨rfl, hg⟩; have hT := hT.bel hg; have hX := hX.bel hg; have hb := hb.trans' hg; clear hg) | (go_at_call_of 20 (Value.slice A a.length ca); refine (hLa.out _ hb).mono ?_; rintro e w2 ⟨rfl, hg⟩; have hT := hT.bel hg; have hX := hX.bel hg; have hb := hb.trans' hg; clear hg) | (go_at_call_of 20 (Value.slice B b.length cb); refine (hLb.out _ hb).mono ?_; rintro e w3 ⟨rfl, hg⟩; have hT := hT.bel hg; have hX := hX.bel hg; have hb := hb.trans' hg; obtain ⟨c0, c1, c2, c3, c4, c5, c6, c7, c8, c9, c10⟩ := hX.cells; clear hg) | (go_at_call 21; refine (hLx.out _).mono ?_; rintro e w4 ⟨rfl, hg⟩; have hT := hT.bel hg; have hX := hX.bel hg; have hb := hb.trans' hg; have d0 : World.cell? _ _ = some (.bool tv) := hT.cells.1; have d1 : World.cell? _ _ = some (.string ts) := hT.cells.2; clear hg) | (go_at_call 22; refine (hLv.out _ hb).mono ?_; rintro e w5 ⟨rfl, hg⟩; have hT := hT.bel hg; have hX := hX.bel hg; have hb := hb.trans' hg; have d0 : World.cell? _ _ = some (.bool tv) := hT.cells.1; have d1 : World.cell? _ _ = some (.string ts) := hT.cells.2; clear hg) | (go_at_call 15; refine (hG.out _ hb).mono ?_; rintro e w7 ⟨⟨g7, i7, HG7, rfl⟩, hg⟩; obtain ⟨rfl, rfl⟩ := Prod.mk.inj HG7.out; have hb7 := hg.trans' (bel_alloc w7 (.cells #[.bool g7.v, .string g7.name] 29)); have hT := hT.bel hb7; have hX := hX.bel hb7; have hb := hb.trans' hb7; have hP := TermAt.new w7 g7; clear hg hb7) | (go_at_call 23; refine (hrG.out _ hb).mono ?_; rintro e w8 ⟨⟨g8, i8, HG8, rfl⟩, hg⟩; obtain ⟨rfl, rfl⟩ := Prod.mk.inj HG8.out; have hb8 := hg.trans' (bel_alloc w8 (.cells #[.bool g8.v, .string g8.name] 29)); have hT := hT.bel hb8; have hX := hX.bel hb8; have hP := hP.bel hb8; have hb := hb.trans' hb8; have hQ := TermAt.new w8 g8; clear hg hb8))
  obtain ⟨wA, hwA⟩ : ∃ wA, wA = w8.alloc (.cells #[.bool g8.v, .string g8.name] 29) := ⟨_, rfl⟩
  rw [← hwA]
  rw [← hwA] at hT hX hP hQ hb
  clear hwA hLa hLb hLx hLv hG hrG
  obtain ⟨d0, d1⟩ := hT.cells
  simp only at d0 d1
  have hd : Bel wA wA.drew := bel_drew' (Below.refl _ _)
  have hTd : TermAt wA.drew (w.heap.size + 1) ⟨tv, ts⟩ := hT
  have hOw := Lib.hid (ownB_any A a a.length ca rfl wA.drew ((HL.out.bel hb).bel hd) (by omega))
  have HBD := Lib.hid (Prod.eta (bindD a v ⟨tv, ts⟩))
  have HBL := Lib.hid (bindD_len a v ⟨tv, ts⟩)
  generalize (bindD a v ⟨tv, ts⟩).1 = m1 at HBD HBL
  generalize (bindD a v ⟨tv, ts⟩).2 = n1 at HBD
  have HCD := Lib.hid (Prod.eta (compD a b))
  have HCL := Lib.hid (compD_len' a b)
  generalize (compD a b).1 = m2 at HCD HCL
  generalize (compD a b).2 = n2 at HCD
  go_region_held3 (fun w' => w'.cell? ⟨w.heap.size + 1, 0, none⟩ = some (.bool tv) ∧ w'.cell? ⟨w.heap.size + 1, 1, none⟩ = some (.string ts)) (first | go_keep | trivial)
    (first | (go_at_call 24; refine hOw.out.mono ?_; rintro e w9 ⟨⟨q2, k2, HO2, rfl⟩, hg⟩; have hd := hd.trans' hg; have hTd := hTd.bel hg; have z0 : w9.cell? ⟨w.heap.size + 1, 0, none⟩ = some (.bool tv) := hTd.cells.1; have z1 : w9.cell? ⟨w.heap.size + 1, 1, none⟩ = some (.string ts) := hTd.cells.2; clear hg) | (go_at_call 10; refine (Bind_any q2 a k2 v ⟨tv, ts⟩ _ (OwnL.slice EB HO2.out) (by omega)).mono ?_; rintro e w10 ⟨⟨q3, k3, o3, n3, HE3, HO3, rfl⟩, hg⟩; obtain ⟨rfl, rfl⟩ := Prod.mk.inj (HE3.out.trans HBD.out.symm); have hd := hd.trans' hg; have hTd := hTd.bel hg; have z0 : w10.cell? ⟨w.heap.size + 1, 0, none⟩ = some (.bool tv) := hTd.cells.1; have z1 : w10.cell? ⟨w.heap.size + 1, 1, none⟩ = some (.string ts) := hTd.cells.2; clear hg))
  have hT := hT.bel hd
  have hX := hX.bel hd
  have hP := hP.bel hd
  have hQ := hQ.bel hd
  have hb := hb.trans' hd
  have HM3 := Lib.hid (OwnL.slice EB HO3.out)
  clear hd hTd hOw z0 z1 d0 d1
  obtain ⟨d0, d1⟩ := hT.cells
  simp only at d0 d1
  go_wp2_with (first | (go_at_call 25; refine (rBind_any A a a.length ca rfl v ⟨tv, ts⟩ _ (HL.out.bel hb) (by omega)).mono ?_; rintro e w11 ⟨⟨q4, k4, o4, n4, HE4, HO4, rfl⟩, hg⟩; obtain ⟨rfl, rfl⟩ := Prod.mk.inj (HE4.out.trans HBD.out.symm); have hT := hT.bel hg; have hX := hX.bel hg; have hP := hP.bel hg; have hQ := hQ.bel hg; have hb := hb.trans' hg; have HM3 := Lib.hid (HM3.out.bel hg); have HM4 := Lib.hid (OwnL.slice EB HO4.out); clear hg) | (go_at_call_of 24 (Value.slice A a.length ca); refine (ownB_any A a a.length ca rfl _ (HL.out.bel hb) (by omega)).mono ?_; rintro e w12 ⟨⟨q5, k5, HO5, rfl⟩, hg⟩; have hT := hT.bel hg; have hX := hX.bel hg; have hP := hP.bel hg; have hQ := hQ.bel hg; have hb := hb.trans' hg; have HM3 := Lib.hid (HM3.out.bel hg); have HM4 := Lib.hid (HM4.out.bel hg); clear hg) | (go_at_call_of 24 (Value.slice B b.length cb); refine (ownB_any B b b.length cb rfl _ (HM.out.bel hb) (by omega)).mono ?_; rintro e w13 ⟨⟨q6, k6, HO6, rfl⟩, hg⟩; have hT := hT.bel hg; have hX := hX.bel hg; have hP := hP.bel hg; have hQ := hQ.bel hg; have hb := hb.trans' hg; have HM3 := Lib.hid (HM3.out.bel hg); have HM4 := Lib.hid (HM4.out.bel hg); have HO5 := Lib.hid (HO5.out.bel' hg); clear hg) | (go_at_call 14; refine (Compose_any q5 a k5 q6 b k6 _ (OwnL.slice EB HO5.out) (by omega) (OwnL.slice EB HO6.out) (by omega)).mono ?_; rintro e w14 ⟨⟨q7, k7, o7, n7, HE7, HO7, rfl⟩, hg⟩; obtain ⟨rfl, rfl⟩ := Prod.mk.inj (HE7.out.trans HCD.out.symm); have hT := hT.bel hg; have hX := hX.bel hg; have hP := hP.bel hg; have hQ := hQ.bel hg; have hb := hb.trans' hg; have HM3 := Lib.hid (HM3.out.bel hg); have HM4 := Lib.hid (HM4.out.bel hg); have HM7 := Lib.hid (OwnL.slice EB HO7.out); clear hg) | (go_at_call 26; refine (rCompose_any A a a.length ca rfl B b b.length cb rfl _ (HL.out.bel hb) (by omega) (HM.out.bel hb) (by omega)).mono ?_; rintro e w15 ⟨⟨q8, k8, o8, n8, HE8, HO8, rfl⟩, hg⟩; obtain ⟨rfl, rfl⟩ := Prod.mk.inj (HE8.out.trans HCD.out.symm); have hT := hT.bel hg; have hX := hX.bel hg; have hP := hP.bel hg; have hQ := hQ.bel hg; have hb := hb.trans' hg; have HM3 := Lib.hid (HM3.out.bel hg); have HM4 := Lib.hid (HM4.out.bel hg); have HM7 := Lib.hid (HM7.out.bel hg); have HM8 := Lib.hid (OwnL.slice EB HO8.out); clear hg))
  have hl3 : o4.length ≤ 1000000 := by have := HBL.out; omega
  have hl7 : o8.length ≤ 1000000 := by have := HCL.out; omega
  obtain ⟨z, hz⟩ : ∃ z, z = applyA a x := ⟨_, rfl⟩
  obtain ⟨u, hu⟩ : ∃ u, u = subT a ⟨tv, ts⟩ := ⟨_, rfl⟩
  obtain ⟨er, her⟩ : ∃ er, er = errB a := ⟨_, rfl⟩
  have hS1 := Lib.hid (fun W (hg : Bel w15 W) => sameB_any q3 o4 o4.length k3 rfl q4 k4 W (HM3.out.bel hg) (HM4.out.bel hg) hl3)
  have hS2 := Lib.hid (fun W (hg : Bel w15 W) => sameB_any q7 o8 o8.length k7 rfl q8 k8 W (HM7.out.bel hg) (HM8.out.bel hg) hl7)
  have HBW := Lib.hid hb
  have hCa := Lib.hid (fun W (hg : Bel w15 W) => Check_any A a ca W (HL.out.bel (HBW.out.trans' hg)) (by omega))
  have hrC := Lib.hid (fun W (hg : Bel w15 W) => rCheck4_any A a a.length ca rfl W (HL.out.bel (HBW.out.trans' hg)) (by omega))
  have hTe := Lib.hid (fun W (hg : Bel w15 W) => Term_any A a ca ⟨tv, ts⟩ W (HL.out.bel (HBW.out.trans' hg)) (by omega))
  have hrT := Lib.hid (fun W (hg : Bel w15 W) => rTerm4_any A a a.length ca rfl ⟨tv, ts⟩ W (HL.out.bel (HBW.out.trans' hg)) (by omega))
  have hAp := Lib.hid (fun W (hg : Bel w15 W) => Apply_any A a ca x W (HL.out.bel (HBW.out.trans' hg)) (by omega))
  have hrA := Lib.hid (fun W (hg : Bel w15 W) => rApply_any A a ca x W (HL.out.bel (HBW.out.trans' hg)) (by omega))
  have hOw := Lib.hid (fun W (hg : Bel w15 W) => ownB_any A a a.length ca rfl W (HL.out.bel (HBW.out.trans' hg)) (by omega))
  have hrR := Lib.hid (fun W (hg : Bel w15 W) => rRestrict_any A a a.length ca rfl V vs vs.length cv rfl W (HL.out.bel (HBW.out.trans' hg)) (by omega) (HV.out.bel (HBW.out.trans' hg)) (by omega))
  have HRL := Lib.hid (rest_len a vs)
  have HVW := Lib.hid (fun W (hg : Bel w15 W) => HV.out.bel (HBW.out.trans' hg))
  rw [← hz] at hAp hrA
  rw [← hu] at hTe hrT
  rw [← her] at hCa hrC
  clear hz hu her hb HM3 HM4 HM7 HM8 HO3 HO4 HO5 HO6 HO7 HO8 d0 d1
  have hqz : eqA z z = true := (eqA_iff _ _).2 rfl
  have hqq := eql_atom z z
  have hqu : eqT u u = true := (eqT_iff _ _).2 rfl
  have hqg : eqT g8 g8 = true := (eqT_iff _ _).2 rfl
  have hqt := eql_term
  have h15 : Bel w15 w15.drew := bel_drew' (Below.refl _ _)
  obtain ⟨c0, c1, c2, c3, c4, c5, c6, c7, c8, c9, c10⟩ := hX.cells
  obtain ⟨d0, d1⟩ := hT.cells
  obtain ⟨p0, p1⟩ := hP.cells
  obtain ⟨y0, y1⟩ := hQ.cells
  simp only at d0 d1
  have hX : AtomAt w15.drew w.heap.size x := hX.drew
  have hT : TermAt w15.drew (w.heap.size + 1) ⟨tv, ts⟩ := hT
  have hP : TermAt w15.drew w7.heap.size g8 := hP
  have hQ : TermAt w15.drew w8.heap.size g8 := hQ
  go_region_held3 (fun w' => (w'.cell? ⟨w.heap.size, 0, none⟩ = some (.string x.says) ∧ w'.cell? ⟨w.heap.size, 1, none⟩ = some (.string x.pred) ∧ w'.cell? ⟨w.heap.size, 2, none⟩ = some (.int .i64 x.n) ∧ w'.cell? ⟨w.heap.size, 3, none⟩ = some (.bool x.t0.v) ∧ w'.cell? ⟨w.heap.size, 4, none⟩ = some (.string x.t0.name) ∧ w'.cell? ⟨w.heap.size, 5, none⟩ = some (.bool x.t1.v) ∧ w'.cell? ⟨w.heap.size, 6, none⟩ = some (.string x.t1.name) ∧ w'.cell? ⟨w.heap.size, 7, none⟩ = some (.bool x.t2.v) ∧ w'.cell? ⟨w.heap.size, 8, none⟩ = some (.string x.t2.name) ∧ w'.cell? ⟨w.heap.size, 9, none⟩ = some (.bool x.t3.v) ∧ w'.cell? ⟨w.heap.size, 10, none⟩ = some (.string x.t3.name)) ∧ (w'.cell? ⟨w.heap.size + 1, 0, none⟩ = some (.bool tv) ∧ w'.cell? ⟨w.heap.size + 1, 1, none⟩ = some (.string ts)) ∧ (w'.cell? ⟨w7.heap.size, 0, none⟩ = some (.bool g8.v) ∧ w'.cell? ⟨w7.heap.size, 1, none⟩ = some (.string g8.name)) ∧ (w'.cell? ⟨w8.heap.size, 0, none⟩ = some (.bool g8.v) ∧ w'.cell? ⟨w8.heap.size, 1, none⟩ = some (.string g8.name))) (first | exact ⟨hX.cells, hT.cells, hP.cells, hQ.cells⟩ | go_keep | trivial)
    (first | (go_at_call_of 16 (Value.slice q3 o4.length k3); refine (hS1.out _ h15).mono ?_; rintro e w21 ⟨rfl, hg⟩; have h15 := h15.trans' hg; have hX := hX.bel hg; have hT := hT.bel hg; have hP := hP.bel hg; have hQ := hQ.bel hg; clear hg) | (go_at_call_of 16 (Value.slice q7 o8.length k7); refine (hS2.out _ h15).mono ?_; rintro e w22 ⟨rfl, hg⟩; have h15 := h15.trans' hg; have hX := hX.bel hg; have hT := hT.bel hg; have hP := hP.bel hg; have hQ := hQ.bel hg; clear hg) | (go_at_call 19; refine (hCa.out _ h15).mono ?_; rintro e w23 ⟨rfl, hg⟩; have h15 := h15.trans' hg; have hX := hX.bel hg; have hT := hT.bel hg; have hP := hP.bel hg; have hQ := hQ.bel hg; clear hg) | (go_at_call 27; refine (hrC.out _ h15).mono ?_; rintro e w24 ⟨rfl, hg⟩; have h15 := h15.trans' hg; have hX := hX.bel hg; have hT := hT.bel hg; have hP := hP.bel hg; have hQ := hQ.bel hg; clear hg) | (go_at_call 17; refine (hTe.out _ h15).mono ?_; rintro e w25 ⟨⟨u1, HU1, rfl⟩, hg⟩; obtain rfl := HU1.out; have h15 := h15.trans' hg; have hX := hX.bel hg; have hT := hT.bel hg; have hP := hP.bel hg; have hQ := hQ.bel hg; clear hg) | (go_at_call 28; refine (hrT.out _ h15).mono ?_; rintro e w26 ⟨⟨u2, HU2, rfl⟩, hg⟩; obtain rfl := HU2.out; have h15 := h15.trans' hg; have hX := hX.bel hg; have hT := hT.bel hg; have hP := hP.bel hg; have hQ := hQ.bel hg; clear hg) | (go_at_call 29; refine (hAp.out _ h15).mono ?_; rintro e w27 ⟨⟨z1, HZ1, rfl⟩, hg⟩; obtain rfl := HZ1.out; have h15 := h15.trans' hg; have hX := hX.bel hg; have hT := hT.bel hg; have hP := hP.bel hg; have hQ := hQ.bel hg; clear hg) | (go_at_call 30; refine (hrA.out _ h15).mono ?_; rintro e w28 ⟨⟨z2, HZ2, rfl⟩, hg⟩; obtain rfl := HZ2.out; have h15 := h15.trans' hg; have hX := hX.bel hg; have hT := hT.bel hg; have hP := hP.bel hg; have hQ := hQ.bel hg; clear hg) | (go_at_call 31; refine (hrR.out _ h15).mono ?_; rintro e w29 ⟨⟨qr, kr, orr, HER, HOR, rfl⟩, hg⟩; obtain rfl := HER.out; (try have HOS := Lib.hid (HOS.out.bel' hg)); (try have HOO := Lib.hid (HOO.out.bel' hg)); have h15 := h15.trans' hg; have hX := hX.bel hg; have hT := hT.bel hg; have hP := hP.bel hg; have hQ := hQ.bel hg; clear hg) | (go_at_call 24; refine (hOw.out _ h15).mono ?_; rintro e w30 ⟨⟨qo, ko, HOO, rfl⟩, hg⟩; (try have HOR := Lib.hid (HOR.out.bel' hg)); have h15 := h15.trans' hg; have hX := hX.bel hg; have hT := hT.bel hg; have hP := hP.bel hg; have hQ := hQ.bel hg; clear hg) | (go_at_call 18; refine (Restrict_own qo a a.length ko rfl V vs vs.length cv rfl _ (OwnL.slice EB HOO.out) hal20 (HVW.out _ h15) hvl20).mono ?_; rintro e w31 ⟨⟨qs, ks, os, HES, HOS, rfl⟩, hg⟩; obtain rfl := HES.out; (try have HOR := Lib.hid (HOR.out.bel' hg)); have h15 := h15.trans' hg; have hX := hX.bel hg; have hT := hT.bel hg; have hP := hP.bel hg; have hQ := hQ.bel hg; clear hg) | (go_at_call 16; refine (sameB_any qs _ _ ks rfl qr kr _ (OwnL.slice EB HOS.out) (OwnL.slice EB HOR.out) (Nat.le_trans HRL.out (by omega))).mono ?_; rintro e w32 ⟨rfl, hg⟩; have h15 := h15.trans' hg; have hX := hX.bel hg; have hT := hT.bel hg; have hP := hP.bel hg; have hQ := hQ.bel hg; clear hg))
  all_goals go_wp2
  all_goals go_ret
  all_goals exact ⟨rfl, HBW.out.trans' h15⟩
end Go.Proofs.Ytdmdefdiglpgaaa
