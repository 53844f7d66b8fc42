/-
  The chapter's example. Conditions: as each says.
-/
import Derived.Test.YtkcnbdlhggoojaaDoorUnF
import Derived.Test.YtkcnbdlhggoojaaDoorSbN1
namespace Go.Proofs.YtkcnbdlhggoojaaDoor
open Go.RowKit

def says6 : ByteArray := ⟨#[97, 108, 105, 99, 101]⟩
def pr6 : ByteArray := ⟨#[112]⟩
theorem uniR_eq {m : List BindD} {a b : AtomD} {is : Bool} (h1 : eqBs (uniR a b).1 m = true) (h2 : (uniR a b).2 = is) : uniR a b = (m, is) := by
  have e1 : (uniR a b).1 = m := eqBs_iff h1
  exact Prod.ext e1 h2
def at6 (cs : List UInt8) : AtomD := storedD says6 pr6 (cs.map byteD)
theorem live6_a : uniR (at6 [88, 98]) (at6 [97, 89]) = ([⟨⟨#[88]⟩, ⟨false, ⟨#[97]⟩⟩⟩, ⟨⟨#[89]⟩, ⟨false, ⟨#[98]⟩⟩⟩], true) := uniR_eq (by decide +kernel) (by decide +kernel)
theorem live6_b : uniR (at6 [88, 89]) (at6 [89, 97]) = ([⟨⟨#[88]⟩, ⟨false, ⟨#[97]⟩⟩⟩, ⟨⟨#[89]⟩, ⟨false, ⟨#[97]⟩⟩⟩], true) := uniR_eq (by decide +kernel) (by decide +kernel)
/-- the statements' own helper A, at two names of one byte each -/
theorem kA6 (c d : UInt8) (w : World) : Calls Tryd.prog 8 #[.string says6, .string pr6, .slice (some ⟨w.heap.size, 0, none⟩) 2 2] (w.alloc (.cells #[.string ⟨#[c]⟩, .string ⟨#[d]⟩] 9)) fun e w' => (∃ q, RowKit.Hid (q = at6 [c, d]) ∧ e = .returned (.agg #[.string q.says, .string q.pred, .int .i64 q.n, .bool q.t0.v, .string q.t0.name, .bool q.t1.v, .string q.t1.name, .bool q.t2.v, .string q.t2.name, .bool q.t3.v, .string q.t3.name])) ∧ Bel w w' := by
  refine (kA_any says6 pr6 (some ⟨w.heap.size, 0, none⟩) [c, d] 2 _ (listAt_lit w 9 #[.string ⟨#[c]⟩, .string ⟨#[d]⟩]) (by simp)).mono ?_
  rintro e w' ⟨h, hg⟩
  exact ⟨h, (bel_alloc _ _).trans' hg⟩
set_option maxRecDepth 20000 in
set_option maxHeartbeats 4000000 in
theorem lives6_any (w : World) : Calls Tryd.prog 6 #[] w fun e w' => e = .returned (.bool true) ∧ Bel w w' := by
  have hb : Bel w w := Below.refl _ _
  go_enter Tryd.func6, Tryd.ntmps6
  go_wp2_with (fail)
  refine (kA6 88 98 _).mono ?_
  rintro e w1 ⟨⟨a1, HA1, rfl⟩, hg⟩
  have hb := hb.trans' hg
  clear hg
  go_wp2_with (fail)
  refine (kA6 97 89 _).mono ?_
  rintro e w2 ⟨⟨a2, HA2, rfl⟩, hg⟩
  have hb := hb.trans' hg
  clear hg
  go_wp2_with (fail)
  refine (Unify_any a1 a2 _).mono ?_
  rintro e w3 ⟨⟨q3, c3, o3, i3, HE3, HL3, rfl⟩, hg⟩
  have hb := hb.trans' hg
  clear hg
  have e3 : uniR a1 a2 = ([⟨⟨#[88]⟩, ⟨false, ⟨#[97]⟩⟩⟩, ⟨⟨#[89]⟩, ⟨false, ⟨#[98]⟩⟩⟩], true) := by rw [HA1.out, HA2.out]; exact live6_a
  obtain ⟨h3, rfl⟩ := Prod.mk.inj (HE3.out.trans e3)
  clear e3
  have H3 := Lib.hid h3
  clear h3
  go_wp2_with (fail)
  refine (kA6 88 89 _).mono ?_
  rintro e w4 ⟨⟨a4, HA4, rfl⟩, hg⟩
  have hb := hb.trans' hg
  have HL3 := Lib.hid (HL3.out.bel hg)
  clear hg
  go_wp2_with (fail)
  refine (kA6 89 97 _).mono ?_
  rintro e w5 ⟨⟨a5, HA5, rfl⟩, hg⟩
  have hb := hb.trans' hg
  have HL3 := Lib.hid (HL3.out.bel hg)
  clear hg
  go_wp2_with (fail)
  refine (Unify_any a4 a5 _).mono ?_
  rintro e w6 ⟨⟨q6, c6, o6, i6, HE6, HL6, rfl⟩, hg⟩
  have hb := hb.trans' hg
  have HL3 := Lib.hid (HL3.out.bel hg)
  clear hg
  have e6 : uniR a4 a5 = ([⟨⟨#[88]⟩, ⟨false, ⟨#[97]⟩⟩⟩, ⟨⟨#[89]⟩, ⟨false, ⟨#[97]⟩⟩⟩], true) := by rw [HA4.out, HA5.out]; exact live6_b
  obtain ⟨h6, rfl⟩ := Prod.mk.inj (HE6.out.trans e6)
  clear e6
  have H6 := Lib.hid h6
  clear h6
  go_wp2_with (fail)
  refine (c_any _ _).mono ?_
  rintro e w7 ⟨rfl, hg⟩
  have hb := hb.trans' hg
  have HL3 := Lib.hid (HL3.out.bel hg)
  have HL6 := Lib.hid (HL6.out.bel hg)
  clear hg
  go_wp2_with (fail)
  refine (c_any _ _).mono ?_
  rintro e w8 ⟨rfl, hg⟩
  have hb := hb.trans' hg
  have HL3 := Lib.hid (HL3.out.bel hg)
  have HL6 := Lib.hid (HL6.out.bel hg)
  clear hg
  go_wp2_with (fail)
  have h1 : o3.length = 2 := by rw [H3.out]; rfl
  have hM : BL (w8.alloc (.cells #[.string ⟨#[88]⟩, .bool false, .string ⟨#[97]⟩, .string ⟨#[89]⟩, .bool false, .string ⟨#[98]⟩] 39)) (some ⟨w8.heap.size, 0, none⟩) 2 o3 := by
    rw [H3.out]
    exact SliceAt.lit EB w8 39 [⟨⟨#[88]⟩, ⟨false, ⟨#[97]⟩⟩⟩, ⟨⟨#[89]⟩, ⟨false, ⟨#[98]⟩⟩⟩] _ rfl
  refine (sameB2_any q3 o3 o3.length c3 rfl _ o3 2 2 rfl h1 _ (HL3.out.bel (bel_alloc _ _)) hM (by omega)).mono ?_
  rintro e w9 ⟨rfl, hg⟩
  have hg := (bel_alloc w8 (.cells #[.string ⟨#[88]⟩, .bool false, .string ⟨#[97]⟩, .string ⟨#[89]⟩, .bool false, .string ⟨#[98]⟩] 39)).trans' hg
  have hb := hb.trans' hg
  have HL6 := Lib.hid (HL6.out.bel hg)
  clear hg h1 hM HL3
  go_wp2_with (fail)
  refine (c_any _ _).mono ?_
  rintro e w10 ⟨rfl, hg⟩
  have hb := hb.trans' hg
  have HL6 := Lib.hid (HL6.out.bel hg)
  clear hg
  go_wp2_with (fail)
  refine (c_any _ _).mono ?_
  rintro e w11 ⟨rfl, hg⟩
  have hb := hb.trans' hg
  have HL6 := Lib.hid (HL6.out.bel hg)
  clear hg
  go_wp2_with (fail)
  have h1 : o6.length = 2 := by rw [H6.out]; rfl
  have hM : BL (w11.alloc (.cells #[.string ⟨#[88]⟩, .bool false, .string ⟨#[97]⟩, .string ⟨#[89]⟩, .bool false, .string ⟨#[97]⟩] 39)) (some ⟨w11.heap.size, 0, none⟩) 2 o6 := by
    rw [H6.out]
    exact SliceAt.lit EB w11 39 [⟨⟨#[88]⟩, ⟨false, ⟨#[97]⟩⟩⟩, ⟨⟨#[89]⟩, ⟨false, ⟨#[97]⟩⟩⟩] _ rfl
  refine (sameB2_any q6 o6 o6.length c6 rfl _ o6 2 2 rfl h1 _ (HL6.out.bel (bel_alloc _ _)) hM (by omega)).mono ?_
  rintro e w12 ⟨rfl, hg⟩
  have hb := (hb.trans' (bel_alloc w11 (.cells #[.string ⟨#[88]⟩, .bool false, .string ⟨#[97]⟩, .string ⟨#[89]⟩, .bool false, .string ⟨#[97]⟩] 39))).trans' hg
  clear hg h1 hM
  go_wp2
  go_ret
  exact ⟨rfl, hb⟩
end Go.Proofs.YtkcnbdlhggoojaaDoor
