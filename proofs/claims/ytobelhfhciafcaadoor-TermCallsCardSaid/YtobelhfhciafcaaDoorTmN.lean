/-
  The law TermCalls for every input. Conditions: what came in lies as its parameters' types say; the library's variable holds some int.
-/
import Derived.Test.YtobelhfhciafcaaDoorTmM
import Derived.Test.YtobelhfhciafcaaDoorTmH
import Derived.Deep.RegionHeld
namespace Go.Proofs.YtobelhfhciafcaaDoor
open Go.RowKit
theorem ListAt.bel {w w' : World} {A : Option Addr} {n : Nat} {xs : List Value} (h : ListAt w A n xs) (hg : Bel w w') : ListAt w' A n xs := by
  obtain ⟨h1, h2⟩ := h
  refine ⟨h1, ?_⟩
  rcases h2 with h2 | ⟨b, o, rfl, hb, hc⟩
  · exact .inl h2
  · exact .inr ⟨b, o, rfl, Nat.lt_of_lt_of_le hb hg.size, fun j u hu => cell_later hg (hc j u hu)⟩
set_option maxRecDepth 20000 in
set_option maxHeartbeats 8000000 in
theorem lawTermCalls (a : AtomD) (t : TermD) (s p : ByteArray) (A : Option Addr) (l : List TermD) (ca : Nat) (w : World) (ha : AtomOk a) (ht : t.name.size ≤ 9223372036854775807) (hs : s.size ≤ 9223372036854775807) (hp : p.size ≤ 9223372036854775807)
    (hT : TermsAt w A l) (hA : A = none → l = [] ∧ ca = 0) (hll : l.length ≤ 9223372036854775807) (hsz : ∀ x ∈ l, x.name.size ≤ 9223372036854775807) (hm : MaxAt w) :
    Calls Tryd.prog 4 #[.agg #[.string a.says, .string a.pred, .int .i64 a.n, .bool a.t0.v, .string a.t0.name, .bool a.t1.v, .string a.t1.name, .bool a.t2.v, .string a.t2.name, .bool a.t3.v, .string a.t3.name], .agg #[.bool t.v, .string t.name], .string s, .string p, .slice A l.length ca] w fun e w' => e = .returned (.bool true) ∧ Bel w w' := by
  have hb := bel_alloc w (.cells #[.string a.says, .string a.pred, .int .i64 a.n, .bool a.t0.v, .string a.t0.name, .bool a.t1.v, .string a.t1.name, .bool a.t2.v, .string a.t2.name, .bool a.t3.v, .string a.t3.name] 27)
  have hb1 := hb.trans' (bel_alloc (w.alloc (.cells #[.string a.says, .string a.pred, .int .i64 a.n, .bool a.t0.v, .string a.t0.name, .bool a.t1.v, .string a.t1.name, .bool a.t2.v, .string a.t2.name, .bool a.t3.v, .string a.t3.name] 27)) (.cells #[.bool t.v, .string t.name] 24))
  have hA0 := (AtomAt.new w a).bel (bel_alloc (w.alloc (.cells #[.string a.says, .string a.pred, .int .i64 a.n, .bool a.t0.v, .string a.t0.name, .bool a.t1.v, .string a.t1.name, .bool a.t2.v, .string a.t2.name, .bool a.t3.v, .string a.t3.name] 27)) (.cells #[.bool t.v, .string t.name] 24))
  have hT0 := TermAt.new (w.alloc (.cells #[.string a.says, .string a.pred, .int .i64 a.n, .bool a.t0.v, .string a.t0.name, .bool a.t1.v, .string a.t1.name, .bool a.t2.v, .string a.t2.name, .bool a.t3.v, .string a.t3.name] 27)) t
  rw [show (w.alloc (.cells #[.string a.says, .string a.pred, .int .i64 a.n, .bool a.t0.v, .string a.t0.name, .bool a.t1.v, .string a.t1.name, .bool a.t2.v, .string a.t2.name, .bool a.t3.v, .string a.t3.name] 27)).heap.size = w.heap.size + 1 by simp] at hT0
  by_cases hg : lightA a = true ∧ t.name.size ≤ 300 ∧ s.size ≤ 300 ∧ p.size ≤ 300 ∧ l.length ≤ 9
  · obtain ⟨q1, q2, q3, q4, q5⟩ := hg
    have r2 : (t.name.size : Int) ≤ 300 := by omega
    have r3 : (s.size : Int) ≤ 300 := by omega
    have r4 : (p.size : Int) ≤ 300 := by omega
    have r5 : (l.length : Int) ≤ 9 := by omega
    have HTT := Lib.hid hT
    have HAA := Lib.hid hA
    have HSZ := Lib.hid hsz
    clear hT hA hsz
    go_enter Tryd.func4, Tryd.ntmps4
    go_wp2_with (first | (go_at_call 8; refine (tlives_any _ (hm.bel hb1)).mono ?_; rintro e w1 ⟨rfl, hg⟩; have hA0 := hA0.bel hg; have hT0 := hT0.bel hg; obtain ⟨c0, c1, c2, c3, c4, c5, c6, c7, c8, c9, c10⟩ := hA0.cells; obtain ⟨d0, d1⟩ := hT0.cells; have hb1 := hb1.trans' hg; clear hg) | (go_at_call 20; refine (light_any a _ ha).mono ?_; rintro e w1 ⟨rfl, hg⟩; have hA0 := hA0.bel hg; have hT0 := hT0.bel hg; obtain ⟨c0, c1, c2, c3, c4, c5, c6, c7, c8, c9, c10⟩ := hA0.cells; obtain ⟨d0, d1⟩ := hT0.cells; have hb1 := hb1.trans' hg; clear hg) | (go_at_call 21; refine (own_any A l ca _ (HTT.out.bel hb1) (by omega) HAA.out).mono ?_; rintro e w1 ⟨⟨A1, ca1, rfl, hT1⟩, hg⟩; have HT1 := Lib.hid hT1; have hA0 := hA0.bel hg; have hT0 := hT0.bel hg; obtain ⟨c0, c1, c2, c3, c4, c5, c6, c7, c8, c9, c10⟩ := hA0.cells; obtain ⟨d0, d1⟩ := hT0.cells; have hb1 := hb1.trans' hg; clear hg hT1) | (go_at_call 10; refine (made_any s p _ l _ _ (by omega) (by omega) HT1.out (by omega) HSZ.out (hm.bel hb1)).mono ?_; rintro e w2 ⟨⟨z1, m1, HZ1, rfl⟩, hg⟩; have hA0 := hA0.bel hg; have hT0 := hT0.bel hg; obtain ⟨c0, c1, c2, c3, c4, c5, c6, c7, c8, c9, c10⟩ := hA0.cells; obtain ⟨d0, d1⟩ := hT0.cells; have hb1 := hb1.trans' hg; clear hg; have hg := bel_alloc w2 (.cells #[.string z1.says, .string z1.pred, .int .i64 z1.n, .bool z1.t0.v, .string z1.t0.name, .bool z1.t1.v, .string z1.t1.name, .bool z1.t2.v, .string z1.t2.name, .bool z1.t3.v, .string z1.t3.name] 27); have hX := AtomAt.new w2 z1; have hA0 := hA0.bel hg; have hT0 := hT0.bel hg; obtain ⟨c0, c1, c2, c3, c4, c5, c6, c7, c8, c9, c10⟩ := hA0.cells; obtain ⟨d0, d1⟩ := hT0.cells; have hb1 := hb1.trans' hg; clear hg) | (go_at_call 22; refine (rMade_any s p A l ca _ (by omega) (by omega) (HTT.out.bel hb1) (by omega) HSZ.out).mono ?_; rintro e w3 ⟨⟨z2, m2, HZ2, rfl⟩, hg⟩; obtain ⟨hz1, hz2⟩ := Prod.mk.inj (HZ2.out.trans HZ1.out.symm); subst hz1; subst hz2; have hX := hX.bel hg; have hA0 := hA0.bel hg; have hT0 := hT0.bel hg; obtain ⟨c0, c1, c2, c3, c4, c5, c6, c7, c8, c9, c10⟩ := hA0.cells; obtain ⟨d0, d1⟩ := hT0.cells; have hb1 := hb1.trans' hg; clear hg; have hg := bel_alloc w3 (.cells #[.string z2.says, .string z2.pred, .int .i64 z2.n, .bool z2.t0.v, .string z2.t0.name, .bool z2.t1.v, .string z2.t1.name, .bool z2.t2.v, .string z2.t2.name, .bool z2.t3.v, .string z2.t3.name] 27); have hX := hX.bel hg; have hY := AtomAt.new w3 z2; obtain ⟨f0, f1, f2, f3, f4, f5, f6, f7, f8, f9, f10⟩ := hX.cells; have hq := eql_atom z2 z2; have hqe : eqA z2 z2 = true := (eqA_iff _ _).2 rfl; have hA0 := hA0.bel hg; have hT0 := hT0.bel hg; obtain ⟨c0, c1, c2, c3, c4, c5, c6, c7, c8, c9, c10⟩ := hA0.cells; obtain ⟨d0, d1⟩ := hT0.cells; have hb1 := hb1.trans' hg; clear hg))
    have hA0 := hA0.drew
    have hT0 : TermAt _ _ _ := hT0.bel (bel_drew' (Below.refl _ _))
    have hX := hX.drew
    have hY := hY.drew
    have hb1 := bel_drew' hb1
    obtain ⟨L, hL⟩ : ∃ L, L = (argsD a).take (cntI a.n) := ⟨_, rfl⟩
    have hLL : L.length ≤ 4 := by rw [hL, first_len]; exact cntI_le _
    have HLL := Lib.hid hLL
    have HL := Lib.hid hL
    have hsv : sameS (namesD true L) (namesD true L) = true := decide_eq_true rfl
    have hsc : sameS (namesD false L) (namesD false L) = true := decide_eq_true rfl
    have hnv := Nat.le_trans (names_len true L) hLL
    have hnc := Nat.le_trans (names_len false L) hLL
    have HM := AtomOk.sm q1
    clear hL hLL
    go_region_held (fun w' => (w'.cell? ⟨w.heap.size, 0, none⟩ = some (.string a.says) ∧ w'.cell? ⟨w.heap.size, 1, none⟩ = some (.string a.pred) ∧ w'.cell? ⟨w.heap.size, 2, none⟩ = some (.int .i64 a.n) ∧ w'.cell? ⟨w.heap.size, 3, none⟩ = some (.bool a.t0.v) ∧ w'.cell? ⟨w.heap.size, 4, none⟩ = some (.string a.t0.name) ∧ w'.cell? ⟨w.heap.size, 5, none⟩ = some (.bool a.t1.v) ∧ w'.cell? ⟨w.heap.size, 6, none⟩ = some (.string a.t1.name) ∧ w'.cell? ⟨w.heap.size, 7, none⟩ = some (.bool a.t2.v) ∧ w'.cell? ⟨w.heap.size, 8, none⟩ = some (.string a.t2.name) ∧ w'.cell? ⟨w.heap.size, 9, none⟩ = some (.bool a.t3.v) ∧ w'.cell? ⟨w.heap.size, 10, none⟩ = some (.string a.t3.name)) ∧ (w'.cell? ⟨w.heap.size + 1, 0, none⟩ = some (.bool t.v) ∧ w'.cell? ⟨w.heap.size + 1, 1, none⟩ = some (.string t.name)) ∧ (w'.cell? ⟨w2.heap.size, 0, none⟩ = some (.string z2.says) ∧ w'.cell? ⟨w2.heap.size, 1, none⟩ = some (.string z2.pred) ∧ w'.cell? ⟨w2.heap.size, 2, none⟩ = some (.int .i64 z2.n) ∧ w'.cell? ⟨w2.heap.size, 3, none⟩ = some (.bool z2.t0.v) ∧ w'.cell? ⟨w2.heap.size, 4, none⟩ = some (.string z2.t0.name) ∧ w'.cell? ⟨w2.heap.size, 5, none⟩ = some (.bool z2.t1.v) ∧ w'.cell? ⟨w2.heap.size, 6, none⟩ = some (.string z2.t1.name) ∧ w'.cell? ⟨w2.heap.size, 7, none⟩ = some (.bool z2.t2.v) ∧ w'.cell? ⟨w2.heap.size, 8, none⟩ = some (.string z2.t2.name) ∧ w'.cell? ⟨w2.heap.size, 9, none⟩ = some (.bool z2.t3.v) ∧ w'.cell? ⟨w2.heap.size, 10, none⟩ = some (.string z2.t3.name)) ∧ (w'.cell? ⟨w3.heap.size, 0, none⟩ = some (.string z2.says) ∧ w'.cell? ⟨w3.heap.size, 1, none⟩ = some (.string z2.pred) ∧ w'.cell? ⟨w3.heap.size, 2, none⟩ = some (.int .i64 z2.n) ∧ w'.cell? ⟨w3.heap.size, 3, none⟩ = some (.bool z2.t0.v) ∧ w'.cell? ⟨w3.heap.size, 4, none⟩ = some (.string z2.t0.name) ∧ w'.cell? ⟨w3.heap.size, 5, none⟩ = some (.bool z2.t1.v) ∧ w'.cell? ⟨w3.heap.size, 6, none⟩ = some (.string z2.t1.name) ∧ w'.cell? ⟨w3.heap.size, 7, none⟩ = some (.bool z2.t2.v) ∧ w'.cell? ⟨w3.heap.size, 8, none⟩ = some (.string z2.t2.name) ∧ w'.cell? ⟨w3.heap.size, 9, none⟩ = some (.bool z2.t3.v) ∧ w'.cell? ⟨w3.heap.size, 10, none⟩ = some (.string z2.t3.name))) (exact ⟨hA0.cells, hT0.cells, hX.cells, hY.cells⟩) (first | (go_at_call 13; refine (check_any a _ ha (hm.bel hb1)).mono ?_; rintro e w4 ⟨rfl, hg⟩; have hA0 := hA0.bel hg; have hT0 := hT0.bel hg; have hX := hX.bel hg; have hY := hY.bel hg; have hb1 := hb1.trans' hg; clear hg) | (go_at_call 23; refine (rCheck_any a _ ha).mono ?_; rintro e w4 ⟨rfl, hg⟩; have hA0 := hA0.bel hg; have hT0 := hT0.bel hg; have hX := hX.bel hg; have hY := hY.bel hg; have hb1 := hb1.trans' hg; clear hg) | (go_at_call 19; refine (term_any t.v t.name _ (by exact ht) (hm.bel hb1)).mono ?_; rintro e w4 ⟨rfl, hg⟩; have hA0 := hA0.bel hg; have hT0 := hT0.bel hg; have hX := hX.bel hg; have hY := hY.bel hg; have hb1 := hb1.trans' hg; clear hg) | (go_at_call 24; refine (rTerm_any t.v t.name _ (by exact ht)).mono ?_; rintro e w4 ⟨rfl, hg⟩; have hA0 := hA0.bel hg; have hT0 := hT0.bel hg; have hX := hX.bel hg; have hY := hY.bel hg; have hb1 := hb1.trans' hg; clear hg) | (go_at_call 14; refine (ground_any a _).mono ?_; rintro e w4 ⟨rfl, hg⟩; have hA0 := hA0.bel hg; have hT0 := hT0.bel hg; have hX := hX.bel hg; have hY := hY.bel hg; have hb1 := hb1.trans' hg; clear hg) | (go_at_call 25; refine (rGround_any a _).mono ?_; rintro e w4 ⟨rfl, hg⟩; have hA0 := hA0.bel hg; have hT0 := hT0.bel hg; have hX := hX.bel hg; have hY := hY.bel hg; have hb1 := hb1.trans' hg; clear hg) | (go_at_call 16; refine (vars_any a _ L HL.out).mono ?_; rintro e w4 ⟨⟨A3, k3, hV1, rfl⟩, hg⟩; have hA0 := hA0.bel hg; have hT0 := hT0.bel hg; have hX := hX.bel hg; have hY := hY.bel hg; have hb1 := hb1.trans' hg; clear hg) | (go_at_call 26; refine (rvars_any a _ L HL.out).mono ?_; rintro e w4 ⟨⟨A4, k4, hV2, rfl⟩, hg⟩; have hV1 := Lib.hid (hV1.out.bel hg); have hA0 := hA0.bel hg; have hT0 := hT0.bel hg; have hX := hX.bel hg; have hY := hY.bel hg; have hb1 := hb1.trans' hg; clear hg) | (go_at_call 15; refine (same_any _ _ (namesD true L) (namesD true L) _ _ _ (by unfold maxLen; omega) (by unfold maxLen; omega) hV1.out hV2.out).mono ?_; rintro e w4 ⟨rfl, n4, rfl⟩; clear hV1 hV2; have hA0 := hA0.bel (bel_drewN _ n4); have hT0 := hT0.bel (bel_drewN _ n4); have hX := hX.bel (bel_drewN _ n4); have hY := hY.bel (bel_drewN _ n4); have hb1 := hb1.trans' (bel_drewN _ n4)) | (go_at_call 17; refine (consts_any a _ L HL.out).mono ?_; rintro e w4 ⟨⟨A5, k5, hV3, rfl⟩, hg⟩; have hA0 := hA0.bel hg; have hT0 := hT0.bel hg; have hX := hX.bel hg; have hY := hY.bel hg; have hb1 := hb1.trans' hg; clear hg) | (go_at_call 27; refine (rconsts_any a _ L HL.out).mono ?_; rintro e w4 ⟨⟨A6, k6, hV4, rfl⟩, hg⟩; have hV3 := Lib.hid (hV3.out.bel hg); have hA0 := hA0.bel hg; have hT0 := hT0.bel hg; have hX := hX.bel hg; have hY := hY.bel hg; have hb1 := hb1.trans' hg; clear hg) | (go_at_call 15; refine (same_any _ _ (namesD false L) (namesD false L) _ _ _ (by unfold maxLen; omega) (by unfold maxLen; omega) hV3.out hV4.out).mono ?_; rintro e w4 ⟨rfl, n5, rfl⟩; clear hV3 hV4; have hA0 := hA0.bel (bel_drewN _ n5); have hT0 := hT0.bel (bel_drewN _ n5); have hX := hX.bel (bel_drewN _ n5); have hY := hY.bel (bel_drewN _ n5); have hb1 := hb1.trans' (bel_drewN _ n5)) | (go_at_call 18; refine (text_any a _ HM).mono ?_; rintro e w4 ⟨rfl, hg⟩; have hA0 := hA0.bel hg; have hT0 := hT0.bel hg; have hX := hX.bel hg; have hY := hY.bel hg; have hb1 := hb1.trans' hg; clear hg) | (go_at_call 28; refine (rtext_any a _ HM).mono ?_; rintro e w4 ⟨rfl, hg⟩; have hA0 := hA0.bel hg; have hT0 := hT0.bel hg; have hX := hX.bel hg; have hY := hY.bel hg; have hb1 := hb1.trans' hg; clear hg))
    all_goals go_wp2
    all_goals go_ret
    all_goals exact ⟨rfl, hb1⟩
  · by_cases h1 : lightA a = true
    case neg =>
      have h2 : lightA a = false := by simpa using h1
      clear h1 hg hT hA hsz
      go_enter Tryd.func4, Tryd.ntmps4
      go_wp2_with (first | (go_at_call 8; refine (tlives_any _ (hm.bel hb1)).mono ?_; rintro e w1 ⟨rfl, hg⟩; have hA0 := hA0.bel hg; have hT0 := hT0.bel hg; obtain ⟨c0, c1, c2, c3, c4, c5, c6, c7, c8, c9, c10⟩ := hA0.cells; obtain ⟨d0, d1⟩ := hT0.cells; have hb1 := hb1.trans' hg; clear hg) | (go_at_call 20; refine (light_any a _ ha).mono ?_; rintro e w1 ⟨rfl, hg⟩; have hA0 := hA0.bel hg; have hT0 := hT0.bel hg; obtain ⟨c0, c1, c2, c3, c4, c5, c6, c7, c8, c9, c10⟩ := hA0.cells; obtain ⟨d0, d1⟩ := hT0.cells; have hb1 := hb1.trans' hg; clear hg))
      go_ret
      exact ⟨rfl, hb1⟩
    by_cases h2 : t.name.size ≤ 300
    case neg =>
      have h2 : ¬ (t.name.size : Int) ≤ 300 := by omega
      clear hg hT hA hsz
      go_enter Tryd.func4, Tryd.ntmps4
      go_wp2_with (first | (go_at_call 8; refine (tlives_any _ (hm.bel hb1)).mono ?_; rintro e w1 ⟨rfl, hg⟩; have hA0 := hA0.bel hg; have hT0 := hT0.bel hg; obtain ⟨c0, c1, c2, c3, c4, c5, c6, c7, c8, c9, c10⟩ := hA0.cells; obtain ⟨d0, d1⟩ := hT0.cells; have hb1 := hb1.trans' hg; clear hg) | (go_at_call 20; refine (light_any a _ ha).mono ?_; rintro e w1 ⟨rfl, hg⟩; have hA0 := hA0.bel hg; have hT0 := hT0.bel hg; obtain ⟨c0, c1, c2, c3, c4, c5, c6, c7, c8, c9, c10⟩ := hA0.cells; obtain ⟨d0, d1⟩ := hT0.cells; have hb1 := hb1.trans' hg; clear hg))
      all_goals go_ret
      all_goals exact ⟨rfl, hb1⟩
    by_cases h3 : s.size ≤ 300
    case neg =>
      have h2 : (t.name.size : Int) ≤ 300 := by omega
      have h3 : ¬ (s.size : Int) ≤ 300 := by omega
      clear hg hT hA hsz
      go_enter Tryd.func4, Tryd.ntmps4
      go_wp2_with (first | (go_at_call 8; refine (tlives_any _ (hm.bel hb1)).mono ?_; rintro e w1 ⟨rfl, hg⟩; have hA0 := hA0.bel hg; have hT0 := hT0.bel hg; obtain ⟨c0, c1, c2, c3, c4, c5, c6, c7, c8, c9, c10⟩ := hA0.cells; obtain ⟨d0, d1⟩ := hT0.cells; have hb1 := hb1.trans' hg; clear hg) | (go_at_call 20; refine (light_any a _ ha).mono ?_; rintro e w1 ⟨rfl, hg⟩; have hA0 := hA0.bel hg; have hT0 := hT0.bel hg; obtain ⟨c0, c1, c2, c3, c4, c5, c6, c7, c8, c9, c10⟩ := hA0.cells; obtain ⟨d0, d1⟩ := hT0.cells; have hb1 := hb1.trans' hg; clear hg))
      all_goals go_ret
      all_goals exact ⟨rfl, hb1⟩
    by_cases h4 : p.size ≤ 300
    case neg =>
      have h2 : (t.name.size : Int) ≤ 300 := by omega
      have h3 : (s.size : Int) ≤ 300 := by omega
      have h4 : ¬ (p.size : Int) ≤ 300 := by omega
      clear hg hT hA hsz
      go_enter Tryd.func4, Tryd.ntmps4
      go_wp2_with (first | (go_at_call 8; refine (tlives_any _ (hm.bel hb1)).mono ?_; rintro e w1 ⟨rfl, hg⟩; have hA0 := hA0.bel hg; have hT0 := hT0.bel hg; obtain ⟨c0, c1, c2, c3, c4, c5, c6, c7, c8, c9, c10⟩ := hA0.cells; obtain ⟨d0, d1⟩ := hT0.cells; have hb1 := hb1.trans' hg; clear hg) | (go_at_call 20; refine (light_any a _ ha).mono ?_; rintro e w1 ⟨rfl, hg⟩; have hA0 := hA0.bel hg; have hT0 := hT0.bel hg; obtain ⟨c0, c1, c2, c3, c4, c5, c6, c7, c8, c9, c10⟩ := hA0.cells; obtain ⟨d0, d1⟩ := hT0.cells; have hb1 := hb1.trans' hg; clear hg))
      all_goals go_ret
      all_goals exact ⟨rfl, hb1⟩
    have h2 : (t.name.size : Int) ≤ 300 := by omega
    have h3 : (s.size : Int) ≤ 300 := by omega
    have h4 : (p.size : Int) ≤ 300 := by omega
    have h5 : ¬ (l.length : Int) ≤ 9 := by have : ¬ l.length ≤ 9 := fun h => hg ⟨h1, by omega, by omega, by omega, h⟩; omega
    clear hg hT hA hsz
    go_enter Tryd.func4, Tryd.ntmps4
    go_wp2_with (first | (go_at_call 8; refine (tlives_any _ (hm.bel hb1)).mono ?_; rintro e w1 ⟨rfl, hg⟩; have hA0 := hA0.bel hg; have hT0 := hT0.bel hg; obtain ⟨c0, c1, c2, c3, c4, c5, c6, c7, c8, c9, c10⟩ := hA0.cells; obtain ⟨d0, d1⟩ := hT0.cells; have hb1 := hb1.trans' hg; clear hg) | (go_at_call 20; refine (light_any a _ ha).mono ?_; rintro e w1 ⟨rfl, hg⟩; have hA0 := hA0.bel hg; have hT0 := hT0.bel hg; obtain ⟨c0, c1, c2, c3, c4, c5, c6, c7, c8, c9, c10⟩ := hA0.cells; obtain ⟨d0, d1⟩ := hT0.cells; have hb1 := hb1.trans' hg; clear hg))
    all_goals go_ret
    all_goals exact ⟨rfl, hb1⟩
end Go.Proofs.YtobelhfhciafcaaDoor
