/-
  The walk of the law TermNames. Condition: the library's variable holds some int.
-/
import Derived.Test.YtobelhfhciafcaaDoorTmV
import Derived.Deep.RegionHeld
namespace Go.Proofs.YtobelhfhciafcaaDoor
open Go.RowKit

def aliceS : ByteArray := ⟨#[97, 108, 105, 99, 101]⟩
def xD : AtomD := storedD aliceS ⟨#[112]⟩ ([88, 97, 88, 89].map byteD)
def yD : AtomD := storedD aliceS ⟨#[112]⟩ ([97].map byteD)
def aT : TermD := ⟨false, ⟨#[97]⟩⟩
theorem nx1 : checkD xD = 0 := by decide +kernel
theorem nx2 : checkD (setN xD 3) = 15 := by decide +kernel
theorem nx3 : checkD (setN xD 5) = 4 := by decide +kernel
theorem nx4 : checkD (setN xD (-1)) = 4 := by decide +kernel
theorem ng1 : groundD xD = false := by decide +kernel
theorem ng2 : groundD (setN xD (-1)) = true := by decide +kernel
theorem ng3 : groundD yD = true := by decide +kernel
theorem nv1 : namesD true ((argsD xD).take (cntI xD.n)) = [⟨#[88]⟩, ⟨#[89]⟩] := by decide +kernel
theorem nv2 : namesD false ((argsD xD).take (cntI xD.n)) = [⟨#[97]⟩] := by decide +kernel
theorem nv3 : namesD true ((argsD (setN xD (-1))).take (cntI (setN xD (-1)).n)) = [] := by decide +kernel
theorem nt1 : textD (setN xD (-1)) = ⟨#[97, 108, 105, 99, 101, 32, 115, 97, 121, 115, 32, 112]⟩ := by decide +kernel
theorem nt2 : textD (setN xD 5) = ⟨#[97, 108, 105, 99, 101, 32, 115, 97, 121, 115, 32, 112, 40, 88, 44, 32, 97, 44, 32, 88, 44, 32, 89, 41]⟩ := by decide +kernel
theorem nb1 : termB ⟨false, ⟨#[57]⟩⟩ = true := by decide +kernel
theorem nb2 : termB ⟨false, ⟨#[88]⟩⟩ = false := by decide +kernel
theorem nb3 : termB ⟨false, ⟨#[]⟩⟩ = false := by decide +kernel
theorem nm1 : madeD aliceS ⟨#[112]⟩ [aT, aT, aT, aT, aT] = (zeroA, 4) := made_long (by decide)
theorem nm2 : madeD ⟨#[65, 108, 105, 99, 101]⟩ ⟨#[112]⟩ [] = (zeroA, 3) := made_bad (by decide) (by decide +kernel)
theorem nm3 : madeD aliceS ⟨#[112]⟩ [⟨true, ⟨#[120]⟩⟩] = (zeroA, 3) := made_bad (by decide) (by decide +kernel)
theorem ListAt.bel4 {w w' : World} {A : Option Addr} {n : Nat} {xs : List Value} (h : ListAt w A n xs) (hg : Bel w w') : ListAt w' A n xs := by
  obtain ⟨h1, h2⟩ := h
  refine ⟨h1, ?_⟩
  rcases h2 with h2 | ⟨b, o, rfl, hb, hc⟩
  · exact .inl h2
  · exact .inr ⟨b, o, rfl, Nat.lt_of_lt_of_le hb hg.size, fun j u hu => cell_later hg (hc j u hu)⟩
theorem ListAt.lit (W : World) (l : List Value) (t : TypeId) : ListAt (W.alloc (.cells l.toArray t)) (some ⟨W.heap.size, 0, none⟩) l.length l :=
  ⟨rfl, .inr ⟨W.heap.size, 0, rfl, by simp, fun j u hu => by
    rw [Nat.zero_add]
    rw [cell_of_row _ _ _ _ _ _ (heap_alloc_new _ _)]
    simpa using hu⟩⟩
set_option maxRecDepth 20000 in
set_option maxHeartbeats 8000000 in
theorem lawTermNames (w : World) (hm : MaxAt w) : Calls Tryd.prog 3 #[] w fun e w' => e = .returned (.bool true) ∧ Bel w w' := by
  have hb : Bel w w := Below.refl _ _
  go_enter Tryd.func3, Tryd.ntmps3
  go_wp2_with (fail)
  refine (tlives_any _ (hm.bel hb)).mono ?_
  rintro e w1 ⟨rfl, hg⟩
  have hb := hb.trans' hg
  clear hg
  go_wp2_with (fail)
  refine (kA_any aliceS ⟨#[112]⟩ _ [88, 97, 88, 89] 4 _ (ListAt.lit w1 [.string ⟨#[88]⟩, .string ⟨#[97]⟩, .string ⟨#[88]⟩, .string ⟨#[89]⟩] 9) (by decide)).mono ?_
  rintro e w2 ⟨⟨q, HQ, rfl⟩, hg⟩
  have hb := (hb.trans' (bel_alloc w1 _)).trans' hg
  have hX := AtomAt.new w2 q
  have hb := hb.trans' (bel_alloc w2 (.cells #[.string q.says, .string q.pred, .int .i64 q.n, .bool q.t0.v, .string q.t0.name, .bool q.t1.v, .string q.t1.name, .bool q.t2.v, .string q.t2.name, .bool q.t3.v, .string q.t3.name] 27))
  clear hg
  go_wp2_with (go_at_call 11; refine (c_any _ _).mono ?_; rintro e w3 ⟨rfl, hg⟩; have hX := hX.bel hg; have hb := hb.trans' hg; clear hg)
  have hT := TermsAt.lit w3 [aT, aT, aT, aT, aT] (by simp)
  have hb := hb.trans' (bel_alloc w3 (.cells (termCells [aT, aT, aT, aT, aT]).toArray 24))
  have hX := hX.bel (bel_alloc w3 (.cells (termCells [aT, aT, aT, aT, aT]).toArray 24))
  refine (made_any aliceS ⟨#[112]⟩ _ [aT, aT, aT, aT, aT] 5 _ (by decide) (by decide) hT (by simp) (by intro t ht; simp at ht; subst ht; decide) (hm.bel hb)).mono ?_
  rintro e w4 ⟨⟨z1, m1, hz, rfl⟩, hg⟩
  obtain ⟨_, hm1⟩ := Prod.mk.inj (hz.out.trans nm1)
  subst hm1
  have hX := hX.bel hg
  have hb := hb.trans' hg
  clear hg hT hz
  go_wp2_with (fail)
  have hb := hb.trans' (bel_alloc w4 (.cells #[.string zeroA.says, .string zeroA.pred, .int .i64 zeroA.n, .bool zeroA.t0.v, .string zeroA.t0.name, .bool zeroA.t1.v, .string zeroA.t1.name, .bool zeroA.t2.v, .string zeroA.t2.name, .bool zeroA.t3.v, .string zeroA.t3.name] 27))
  have hX := hX.bel (bel_alloc w4 (.cells #[.string zeroA.says, .string zeroA.pred, .int .i64 zeroA.n, .bool zeroA.t0.v, .string zeroA.t0.name, .bool zeroA.t1.v, .string zeroA.t1.name, .bool zeroA.t2.v, .string zeroA.t2.name, .bool zeroA.t3.v, .string zeroA.t3.name] 27))
  refine (made_any ⟨#[65, 108, 105, 99, 101]⟩ ⟨#[112]⟩ none [] 0 _ (by decide) (by decide) (TermsAt.nil _ _) (by simp) (by intro t ht; simp at ht) (hm.bel hb)).mono ?_
  rintro e w5 ⟨⟨z2, m2, hz, rfl⟩, hg⟩
  obtain ⟨hz1, hm2⟩ := Prod.mk.inj (hz.out.trans nm2)
  subst hm2
  subst hz1
  have hX := hX.bel hg
  have hb := hb.trans' hg
  clear hg hz
  have hb := hb.trans' (bel_alloc w5 (.cells #[.string zeroA.says, .string zeroA.pred, .int .i64 zeroA.n, .bool zeroA.t0.v, .string zeroA.t0.name, .bool zeroA.t1.v, .string zeroA.t1.name, .bool zeroA.t2.v, .string zeroA.t2.name, .bool zeroA.t3.v, .string zeroA.t3.name] 27))
  have hX := hX.bel (bel_alloc w5 (.cells #[.string zeroA.says, .string zeroA.pred, .int .i64 zeroA.n, .bool zeroA.t0.v, .string zeroA.t0.name, .bool zeroA.t1.v, .string zeroA.t1.name, .bool zeroA.t2.v, .string zeroA.t2.name, .bool zeroA.t3.v, .string zeroA.t3.name] 27))
  go_wp2_with (fail)
  refine (v_any _ _).mono ?_
  rintro e w6 ⟨rfl, hg⟩
  have hX := hX.bel hg
  have hb := hb.trans' hg
  clear hg
  go_wp2_with (fail)
  have hT := TermsAt.lit w6 [⟨true, ⟨#[120]⟩⟩] (by simp)
  have hb := hb.trans' (bel_alloc w6 (.cells (termCells [⟨true, ⟨#[120]⟩⟩]).toArray 24))
  have hX := hX.bel (bel_alloc w6 (.cells (termCells [⟨true, ⟨#[120]⟩⟩]).toArray 24))
  refine (made_any aliceS ⟨#[112]⟩ _ [⟨true, ⟨#[120]⟩⟩] 1 _ (by decide) (by decide) hT (by simp) (by intro t ht; simp at ht; subst ht; decide) (hm.bel hb)).mono ?_
  rintro e w7 ⟨⟨z3, m3, hz, rfl⟩, hg⟩
  obtain ⟨hz1, hm3⟩ := Prod.mk.inj (hz.out.trans nm3)
  subst hm3
  subst hz1
  have hX := hX.bel hg
  have hb := hb.trans' hg
  clear hg hz hT
  have hb := hb.trans' (bel_alloc w7 (.cells #[.string zeroA.says, .string zeroA.pred, .int .i64 zeroA.n, .bool zeroA.t0.v, .string zeroA.t0.name, .bool zeroA.t1.v, .string zeroA.t1.name, .bool zeroA.t2.v, .string zeroA.t2.name, .bool zeroA.t3.v, .string zeroA.t3.name] 27))
  have hX := hX.bel (bel_alloc w7 (.cells #[.string zeroA.says, .string zeroA.pred, .int .i64 zeroA.n, .bool zeroA.t0.v, .string zeroA.t0.name, .bool zeroA.t1.v, .string zeroA.t1.name, .bool zeroA.t2.v, .string zeroA.t2.name, .bool zeroA.t3.v, .string zeroA.t3.name] 27))
  obtain ⟨c0, c1, c2, c3, c4, c5, c6, c7, c8, c9, c10⟩ := hX.cells
  have hX1 := hX.bel (bel_alloc (w7.alloc (.cells #[.string zeroA.says, .string zeroA.pred, .int .i64 zeroA.n, .bool zeroA.t0.v, .string zeroA.t0.name, .bool zeroA.t1.v, .string zeroA.t1.name, .bool zeroA.t2.v, .string zeroA.t2.name, .bool zeroA.t3.v, .string zeroA.t3.name] 27)) (.cells #[.string q.says, .string q.pred, .int .i64 q.n, .bool q.t0.v, .string q.t0.name, .bool q.t1.v, .string q.t1.name, .bool q.t2.v, .string q.t2.name, .bool q.t3.v, .string q.t3.name] 27))
  have hb1 := hb.trans' (bel_alloc (w7.alloc (.cells #[.string zeroA.says, .string zeroA.pred, .int .i64 zeroA.n, .bool zeroA.t0.v, .string zeroA.t0.name, .bool zeroA.t1.v, .string zeroA.t1.name, .bool zeroA.t2.v, .string zeroA.t2.name, .bool zeroA.t3.v, .string zeroA.t3.name] 27)) (.cells #[.string q.says, .string q.pred, .int .i64 q.n, .bool q.t0.v, .string q.t0.name, .bool q.t1.v, .string q.t1.name, .bool q.t2.v, .string q.t2.name, .bool q.t3.v, .string q.t3.name] 27))
  have hO := AtomAt.new (w7.alloc (.cells #[.string zeroA.says, .string zeroA.pred, .int .i64 zeroA.n, .bool zeroA.t0.v, .string zeroA.t0.name, .bool zeroA.t1.v, .string zeroA.t1.name, .bool zeroA.t2.v, .string zeroA.t2.name, .bool zeroA.t3.v, .string zeroA.t3.name] 27)) q
  have hzz : (w7.alloc (.cells #[.string zeroA.says, .string zeroA.pred, .int .i64 zeroA.n, .bool zeroA.t0.v, .string zeroA.t0.name, .bool zeroA.t1.v, .string zeroA.t1.name, .bool zeroA.t2.v, .string zeroA.t2.name, .bool zeroA.t3.v, .string zeroA.t3.name] 27)).heap.size = w7.heap.size + 1 := by simp
  have ne0 : w2.heap.size ≠ w7.heap.size + 1 := by have := hX.lt; omega
  rw [hzz] at hO
  have hwl : w.heap.size ≤ w7.heap.size + 1 := by have := hb.size; omega
  clear hzz
  go_wp2_with (first | ((with_reducible refine wpList_store_n ?_ (.tmp 36) (.const (.int .i64 3)) ?_ (w7.heap.size + 1) 3 ?_ ?_ hO ?_); rfl; rfl; rfl; rfl; intro w8 hO8 hb8 ho8; have hX8 : AtomAt w8 w2.heap.size q := (ho8 _ ne0).trans hX1; have hbB := Below.trans hb1 (hb8.mono hwl); have ne1 := Nat.ne_of_lt hX8.lt; have ne1o := Nat.ne_of_lt hO8.lt; clear c0 c1 c2 c3 c4 c5 c6 c7 c8 c9 c10; obtain ⟨c0, c1, c2, c3, c4, c5, c6, c7, c8, c9, c10⟩ := hX8.cells; have hX2 := hX8.bel (bel_alloc w8 (.cells #[.string q.says, .string q.pred, .int .i64 q.n, .bool q.t0.v, .string q.t0.name, .bool q.t1.v, .string q.t1.name, .bool q.t2.v, .string q.t2.name, .bool q.t3.v, .string q.t3.name] 27)); have hO2 := hO8.bel (bel_alloc w8 (.cells #[.string q.says, .string q.pred, .int .i64 q.n, .bool q.t0.v, .string q.t0.name, .bool q.t1.v, .string q.t1.name, .bool q.t2.v, .string q.t2.name, .bool q.t3.v, .string q.t3.name] 27)); have hG := AtomAt.new w8 q; have hbC := Below.trans hbB ((bel_alloc w8 (.cells #[.string q.says, .string q.pred, .int .i64 q.n, .bool q.t0.v, .string q.t0.name, .bool q.t1.v, .string q.t1.name, .bool q.t2.v, .string q.t2.name, .bool q.t3.v, .string q.t3.name] 27)).mono hbB.size)) | ((with_reducible refine wpList_store_n ?_ (.tmp 38) (.const (.int .i64 5)) ?_ w8.heap.size 5 ?_ ?_ hG ?_); rfl; rfl; rfl; rfl; intro w9 hG9 hb9 ho9; have hX9 : AtomAt w9 w2.heap.size q := (ho9 _ ne1).trans hX2; have hO9 : AtomAt w9 (w7.heap.size + 1) (setN q 3) := (ho9 _ ne1o).trans hO2; have hbD := Below.trans hbC (hb9.mono hbB.size); have ne2 := Nat.ne_of_lt hX9.lt; have ne2o := Nat.ne_of_lt hO9.lt; have ne2g := Nat.ne_of_lt hG9.lt; clear c0 c1 c2 c3 c4 c5 c6 c7 c8 c9 c10; obtain ⟨c0, c1, c2, c3, c4, c5, c6, c7, c8, c9, c10⟩ := hX9.cells; have hX3 := hX9.bel (bel_alloc w9 (.cells #[.string q.says, .string q.pred, .int .i64 q.n, .bool q.t0.v, .string q.t0.name, .bool q.t1.v, .string q.t1.name, .bool q.t2.v, .string q.t2.name, .bool q.t3.v, .string q.t3.name] 27)); have hO3 := hO9.bel (bel_alloc w9 (.cells #[.string q.says, .string q.pred, .int .i64 q.n, .bool q.t0.v, .string q.t0.name, .bool q.t1.v, .string q.t1.name, .bool q.t2.v, .string q.t2.name, .bool q.t3.v, .string q.t3.name] 27)); have hG3 := hG9.bel (bel_alloc w9 (.cells #[.string q.says, .string q.pred, .int .i64 q.n, .bool q.t0.v, .string q.t0.name, .bool q.t1.v, .string q.t1.name, .bool q.t2.v, .string q.t2.name, .bool q.t3.v, .string q.t3.name] 27)); have hN := AtomAt.new w9 q; have hbE := Below.trans hbD ((bel_alloc w9 (.cells #[.string q.says, .string q.pred, .int .i64 q.n, .bool q.t0.v, .string q.t0.name, .bool q.t1.v, .string q.t1.name, .bool q.t2.v, .string q.t2.name, .bool q.t3.v, .string q.t3.name] 27)).mono hbD.size)) | ((with_reducible refine wpList_store_n ?_ (.tmp 40) (.const (.int .i64 (-1))) ?_ w9.heap.size (-1) ?_ ?_ hN ?_); rfl; rfl; rfl; rfl; intro w10 hN10 hb10 ho10; have hX10 : AtomAt w10 w2.heap.size q := (ho10 _ ne2).trans hX3; have hO10 : AtomAt w10 (w7.heap.size + 1) (setN q 3) := (ho10 _ ne2o).trans hO3; have hG10 : AtomAt w10 w8.heap.size (setN q 5) := (ho10 _ ne2g).trans hG3; have hbF := Below.trans hbE (hb10.mono hbD.size); clear c0 c1 c2 c3 c4 c5 c6 c7 c8 c9 c10; obtain ⟨c0, c1, c2, c3, c4, c5, c6, c7, c8, c9, c10⟩ := hX10.cells; obtain ⟨d0, d1, d2, d3, d4, d5, d6, d7, d8, d9, d10⟩ := hO10.cells; obtain ⟨e0, e1, e2, e3, e4, e5, e6, e7, e8, e9, e10⟩ := hG10.cells; obtain ⟨f0, f1, f2, f3, f4, f5, f6, f7, f8, f9, f10⟩ := hN10.cells))
  have hq : q = xD := HQ.out
  have OKa : AtomOk xD := ⟨by decide, by decide, by decide, by decide, by decide, by decide, by decide⟩
  have OKx : AtomOk q := hq ▸ OKa
  have OKo : AtomOk (setN q 3) := ⟨OKx.says, OKx.pred, ⟨by simp [setN], by simp [setN]⟩, OKx.t0, OKx.t1, OKx.t2, OKx.t3⟩
  have OKg : AtomOk (setN q 5) := ⟨OKx.says, OKx.pred, ⟨by simp [setN], by simp [setN]⟩, OKx.t0, OKx.t1, OKx.t2, OKx.t3⟩
  have OKn : AtomOk (setN q (-1)) := ⟨OKx.says, OKx.pred, ⟨by simp [setN], by simp [setN]⟩, OKx.t0, OKx.t1, OKx.t2, OKx.t3⟩
  have SMa : AtomSm xD := ⟨by decide, by decide, by decide, by decide, by decide, by decide⟩
  have SMx : AtomSm q := hq ▸ SMa
  have SMg : AtomSm (setN q 5) := ⟨SMx.says, SMx.pred, SMx.t0, SMx.t1, SMx.t2, SMx.t3⟩
  have SMn : AtomSm (setN q (-1)) := ⟨SMx.says, SMx.pred, SMx.t0, SMx.t1, SMx.t2, SMx.t3⟩
  have K1 : checkD q = 0 := by rw [hq]; exact nx1
  have K2 : checkD (setN q 3) = 15 := by rw [hq]; exact nx2
  have K3 : checkD (setN q 5) = 4 := by rw [hq]; exact nx3
  have K4 : checkD (setN q (-1)) = 4 := by rw [hq]; exact nx4
  have K5 : groundD q = false := by rw [hq]; exact ng1
  have K6 : groundD (setN q (-1)) = true := by rw [hq]; exact ng2
  have V1 : namesD true ((argsD q).take (cntI q.n)) = [⟨#[88]⟩, ⟨#[89]⟩] := by rw [hq]; exact nv1
  have V2 : namesD false ((argsD q).take (cntI q.n)) = [⟨#[97]⟩] := by rw [hq]; exact nv2
  have V3 : namesD true ((argsD (setN q (-1))).take (cntI (setN q (-1)).n)) = [] := by rw [hq]; exact nv3
  have T1 : textD (setN q (-1)) = ⟨#[97, 108, 105, 99, 101, 32, 115, 97, 121, 115, 32, 112]⟩ := by rw [hq]; exact nt1
  have T2 : textD (setN q 5) = ⟨#[97, 108, 105, 99, 101, 32, 115, 97, 121, 115, 32, 112, 40, 88, 44, 32, 97, 44, 32, 88, 44, 32, 89, 41]⟩ := by rw [hq]; exact nt2
  clear hq
  have hX := hX10
  have hO := hO10
  have hG := hG10
  have hN := hN10
  have hb : Bel w w10 := hbF
  clear hX10 hO10 hG10 hN10 hbF hbE hbD hbC hbB hb1 hX9 hX8 hX3 hX2 hX1 hO9 hO8 hO3 hO2 hG9 hG3 hb8 hb9 hb10 ho8 ho9 ho10
  refine (check_any q _ OKx (hm.bel hb)).mono ?_
  rw [K1]
  rintro e w11 ⟨rfl, hg⟩
  clear c0 c1 c2 c3 c4 c5 c6 c7 c8 c9 c10 d0 d1 d2 d3 d4 d5 d6 d7 d8 d9 d10 e0 e1 e2 e3 e4 e5 e6 e7 e8 e9 e10 f0 f1 f2 f3 f4 f5 f6 f7 f8 f9 f10
  have hX := hX.bel hg
  have hO := hO.bel hg
  have hG := hG.bel hg
  have hN := hN.bel hg
  have hb := hb.trans' hg
  clear hg
  obtain ⟨d0, d1, d2, d3, d4, d5, d6, d7, d8, d9, d10⟩ := hO.cells
  go_wp2_with (fail)
  refine (check_any (setN q 3) _ OKo (hm.bel hb)).mono ?_
  rw [K2]
  rintro e w12 ⟨rfl, hg⟩
  clear d0 d1 d2 d3 d4 d5 d6 d7 d8 d9 d10
  have hX := hX.bel hg
  have hO := hO.bel hg
  have hG := hG.bel hg
  have hN := hN.bel hg
  have hb := hb.trans' hg
  clear hg
  obtain ⟨e0, e1, e2, e3, e4, e5, e6, e7, e8, e9, e10⟩ := hG.cells
  go_wp2_with (fail)
  refine (check_any (setN q 5) _ OKg (hm.bel hb)).mono ?_
  rw [K3]
  rintro e w13 ⟨rfl, hg⟩
  clear e0 e1 e2 e3 e4 e5 e6 e7 e8 e9 e10
  have hX := hX.bel hg
  have hO := hO.bel hg
  have hG := hG.bel hg
  have hN := hN.bel hg
  have hb := hb.trans' hg
  clear hg
  obtain ⟨f0, f1, f2, f3, f4, f5, f6, f7, f8, f9, f10⟩ := hN.cells
  go_wp2_with (fail)
  refine (check_any (setN q (-1)) _ OKn (hm.bel hb)).mono ?_
  rw [K4]
  rintro e w14 ⟨rfl, hg⟩
  clear f0 f1 f2 f3 f4 f5 f6 f7 f8 f9 f10
  have hX := hX.bel hg
  have hO := hO.bel hg
  have hG := hG.bel hg
  have hN := hN.bel hg
  have hb := hb.trans' hg
  clear hg
  obtain ⟨c0, c1, c2, c3, c4, c5, c6, c7, c8, c9, c10⟩ := hX.cells
  go_wp2_with (fail)
  refine (ground_any q _).mono ?_
  rw [K5]
  rintro e w15 ⟨rfl, hg⟩
  clear c0 c1 c2 c3 c4 c5 c6 c7 c8 c9 c10
  have hX := hX.bel hg
  have hO := hO.bel hg
  have hG := hG.bel hg
  have hN := hN.bel hg
  have hb := hb.trans' hg
  clear hg
  obtain ⟨f0, f1, f2, f3, f4, f5, f6, f7, f8, f9, f10⟩ := hN.cells
  go_wp2_with (fail)
  refine (ground_any (setN q (-1)) _).mono ?_
  rw [K6]
  rintro e w16 ⟨rfl, hg⟩
  clear f0 f1 f2 f3 f4 f5 f6 f7 f8 f9 f10
  have hX := hX.bel hg
  have hO := hO.bel hg
  have hG := hG.bel hg
  have hN := hN.bel hg
  have hb := hb.trans' hg
  clear hg
  go_wp2_with (fail)
  have hL := ListAt.lit w16 [.string ⟨#[97]⟩] 9
  have hal := bel_alloc w16 (.cells ([.string ⟨#[97]⟩] : List Value).toArray 9)
  have hX := hX.bel hal
  have hO := hO.bel hal
  have hG := hG.bel hal
  have hN := hN.bel hal
  have hb := hb.trans' hal
  refine (kA_any aliceS ⟨#[112]⟩ _ [97] 1 _ hL (by decide)).mono ?_
  rintro e w17 ⟨⟨y, HY, rfl⟩, hg⟩
  have hX := hX.bel hg
  have hO := hO.bel hg
  have hG := hG.bel hg
  have hN := hN.bel hg
  have hb := hb.trans' hg
  clear hg
  go_wp2_with (fail)
  have hy : y = yD := HY.out
  have K7 : groundD y = true := by rw [hy]; exact ng3
  clear hy HY hL hal
  refine (ground_any y _).mono ?_
  rw [K7]
  rintro e w18 ⟨rfl, hg⟩
  have hX := hX.bel hg
  have hO := hO.bel hg
  have hG := hG.bel hg
  have hN := hN.bel hg
  have hb := hb.trans' hg
  clear hg
  obtain ⟨c0, c1, c2, c3, c4, c5, c6, c7, c8, c9, c10⟩ := hX.cells
  go_wp2_with (fail)
  refine (vars_any q _ _ rfl).mono ?_
  rw [V1]
  rintro e w19 ⟨⟨A1, m1, hL1, rfl⟩, hg⟩
  clear c0 c1 c2 c3 c4 c5 c6 c7 c8 c9 c10
  have hX := hX.bel hg
  have hO := hO.bel hg
  have hG := hG.bel hg
  have hN := hN.bel hg
  have hb := hb.trans' hg
  go_wp2_with (fail)
  clear hg
  have hL := ListAt.lit w19 [.string ⟨#[88]⟩, .string ⟨#[89]⟩] 9
  have hal := bel_alloc w19 (.cells ([.string ⟨#[88]⟩, .string ⟨#[89]⟩] : List Value).toArray 9)
  have hX := hX.bel hal
  have hO := hO.bel hal
  have hG := hG.bel hal
  have hN := hN.bel hal
  have hb := hb.trans' hal
  have hL2 : ListAt _ A1 2 [.string ⟨#[88]⟩, .string ⟨#[89]⟩] := ListAt.bel4 hL1.out hal
  have hs : sameS [⟨#[88]⟩, ⟨#[89]⟩] [⟨#[88]⟩, ⟨#[89]⟩] = true := decide_eq_true rfl
  refine (same_any A1 _ [⟨#[88]⟩, ⟨#[89]⟩] [⟨#[88]⟩, ⟨#[89]⟩] m1 2 _ (by simp [maxLen]) (by simp [maxLen]) hL2 hL).mono ?_
  rw [hs]
  rintro e w20 ⟨rfl, n1, hw⟩
  have hg : Bel (w19.alloc (.cells ([.string ⟨#[88]⟩, .string ⟨#[89]⟩] : List Value).toArray 9)) w20 := by rw [hw]; exact bel_drewN _ n1
  clear hw hL hL1 hL2 hal hs
  have hX := hX.bel hg
  have hO := hO.bel hg
  have hG := hG.bel hg
  have hN := hN.bel hg
  have hb := hb.trans' hg
  clear hg
  obtain ⟨c0, c1, c2, c3, c4, c5, c6, c7, c8, c9, c10⟩ := hX.cells
  go_wp2_with (fail)
  refine (consts_any q _ _ rfl).mono ?_
  rw [V2]
  rintro e w21 ⟨⟨A1, m1, hL1, rfl⟩, hg⟩
  clear c0 c1 c2 c3 c4 c5 c6 c7 c8 c9 c10
  have hX := hX.bel hg
  have hO := hO.bel hg
  have hG := hG.bel hg
  have hN := hN.bel hg
  have hb := hb.trans' hg
  go_wp2_with (fail)
  clear hg
  have hL := ListAt.lit w21 [.string ⟨#[97]⟩] 9
  have hal := bel_alloc w21 (.cells ([.string ⟨#[97]⟩] : List Value).toArray 9)
  have hX := hX.bel hal
  have hO := hO.bel hal
  have hG := hG.bel hal
  have hN := hN.bel hal
  have hb := hb.trans' hal
  have hL2 : ListAt _ A1 1 [.string ⟨#[97]⟩] := ListAt.bel4 hL1.out hal
  have hs : sameS [⟨#[97]⟩] [⟨#[97]⟩] = true := decide_eq_true rfl
  refine (same_any A1 _ [⟨#[97]⟩] [⟨#[97]⟩] m1 1 _ (by simp [maxLen]) (by simp [maxLen]) hL2 hL).mono ?_
  rw [hs]
  rintro e w22 ⟨rfl, n1, hw⟩
  have hg : Bel (w21.alloc (.cells ([.string ⟨#[97]⟩] : List Value).toArray 9)) w22 := by rw [hw]; exact bel_drewN _ n1
  clear hw hL hL1 hL2 hal hs
  have hX := hX.bel hg
  have hO := hO.bel hg
  have hG := hG.bel hg
  have hN := hN.bel hg
  have hb := hb.trans' hg
  clear hg
  obtain ⟨f0, f1, f2, f3, f4, f5, f6, f7, f8, f9, f10⟩ := hN.cells
  go_wp2_with (fail)
  refine (vars_any (setN q (-1)) _ _ rfl).mono ?_
  rw [V3]
  rintro e w23 ⟨⟨A1, m1, hL1, rfl⟩, hg⟩
  clear f0 f1 f2 f3 f4 f5 f6 f7 f8 f9 f10
  have hX := hX.bel hg
  have hO := hO.bel hg
  have hG := hG.bel hg
  have hN := hN.bel hg
  have hb := hb.trans' hg
  clear hg
  obtain ⟨f0, f1, f2, f3, f4, f5, f6, f7, f8, f9, f10⟩ := hN.cells
  go_wp2_with (fail)
  have TT := str_is [97, 108, 105, 99, 101, 32, 115, 97, 121, 115, 32, 112] T1 rfl
  refine (text_any (setN q (-1)) _ SMn).mono ?_
  generalize textD (setN q (-1)) = x1 at TT ⊢
  rintro e w24 ⟨rfl, hg⟩
  clear f0 f1 f2 f3 f4 f5 f6 f7 f8 f9 f10
  have hX := hX.bel hg
  have hO := hO.bel hg
  have hG := hG.bel hg
  have hN := hN.bel hg
  have hb := hb.trans' hg
  clear hg
  obtain ⟨e0, e1, e2, e3, e4, e5, e6, e7, e8, e9, e10⟩ := hG.cells
  go_wp2_with (fail)
  clear TT
  have TT := str_is [97, 108, 105, 99, 101, 32, 115, 97, 121, 115, 32, 112, 40, 88, 44, 32, 97, 44, 32, 88, 44, 32, 89, 41] T2 rfl
  refine (text_any (setN q 5) _ SMg).mono ?_
  generalize textD (setN q 5) = x2 at TT ⊢
  rintro e w25 ⟨rfl, hg⟩
  clear e0 e1 e2 e3 e4 e5 e6 e7 e8 e9 e10
  have hX := hX.bel hg
  have hO := hO.bel hg
  have hG := hG.bel hg
  have hN := hN.bel hg
  have hb := hb.trans' hg
  clear hg
  go_wp2_with (fail)
  clear TT
  refine (c_any _ _).mono ?_
  rintro e w26 ⟨rfl, hg⟩
  have hX := hX.bel hg
  have hO := hO.bel hg
  have hG := hG.bel hg
  have hN := hN.bel hg
  have hb := hb.trans' hg
  clear hg
  go_wp2_with (fail)
  refine (term_any false ⟨#[57]⟩ _ (by decide) (hm.bel hb)).mono ?_
  rw [nb1]
  rintro e w27 ⟨rfl, hg⟩
  have hX := hX.bel hg
  have hO := hO.bel hg
  have hG := hG.bel hg
  have hN := hN.bel hg
  have hb := hb.trans' hg
  clear hg
  go_wp2_with (fail)
  refine (c_any _ _).mono ?_
  rintro e w28 ⟨rfl, hg⟩
  have hX := hX.bel hg
  have hO := hO.bel hg
  have hG := hG.bel hg
  have hN := hN.bel hg
  have hb := hb.trans' hg
  clear hg
  go_wp2_with (fail)
  refine (term_any false ⟨#[88]⟩ _ (by decide) (hm.bel hb)).mono ?_
  rw [nb2]
  rintro e w29 ⟨rfl, hg⟩
  have hX := hX.bel hg
  have hO := hO.bel hg
  have hG := hG.bel hg
  have hN := hN.bel hg
  have hb := hb.trans' hg
  clear hg
  go_wp2_with (fail)
  refine (term_any false ⟨#[]⟩ _ (by decide) (hm.bel hb)).mono ?_
  rw [nb3]
  rintro e w30 ⟨rfl, hg⟩
  have hX := hX.bel hg
  have hO := hO.bel hg
  have hG := hG.bel hg
  have hN := hN.bel hg
  have hb := hb.trans' hg
  clear hg
  go_wp2_with (fail)
  go_ret
  exact ⟨rfl, hb⟩
end Go.Proofs.YtobelhfhciafcaaDoor
