/-
  The walk of the statement SpellNames of layer 1: it returns true; nothing that was there has turned.
-/
import Derived.Test.YtibnipmkjbojdaaDoorSpL
namespace Go.Proofs.YtibnipmkjbojdaaDoor
open Go.RowKit

def longS : ByteArray := ⟨(timesL [97] 255).toArray⟩
theorem longS_of (r : ByteArray) (h : r.data.toList = timesL [97] 255) : r = longS := by
  obtain ⟨⟨l⟩⟩ := r
  simp only at h
  subst h
  rfl
theorem words_two (w : World) : (wordsW w).cell? ⟨w.heap.size, 2, none⟩ = some (.string ⟨#[99, 97, 110, 115, 97, 121]⟩) := words_cells w 2 (by decide)

set_option maxRecDepth 100000 in
set_option maxHeartbeats 8000000 in
theorem lawNames (w : World) (hm : MaxAt w) :
    Calls Tryd.prog 3 #[] w fun e w' => e = .returned (.bool true) ∧ Bel w w' := by
  have hb : Bel w w := Below.refl _ _
  have q0 : prinB ⟨#[97, 95, 49]⟩ = true := by decide +kernel
  have q1 : prinB ⟨#[95, 97]⟩ = false := by decide +kernel
  have q2 : prinB ⟨#[]⟩ = false := by decide +kernel
  have q3 : prinB ⟨#[65]⟩ = false := by decide +kernel
  have q4 : prinB ⟨#[97, 66]⟩ = false := by decide +kernel
  have q5 : consB ⟨#[48]⟩ = true := by decide +kernel
  have q6 : consB ⟨#[95]⟩ = false := by decide +kernel
  have q7 : consB ⟨#[97, 45, 98]⟩ = false := by decide +kernel
  have q8 : variB ⟨#[88]⟩ = true := by decide +kernel
  have q9 : variB ⟨#[88, 95, 121, 57, 90]⟩ = true := by decide +kernel
  have q10 : variB ⟨#[120]⟩ = false := by decide +kernel
  have q11 : variB ⟨#[88, 35, 49]⟩ = false := by decide +kernel
  have q12 : variB ⟨#[]⟩ = false := by decide +kernel
  have q13 : resB ⟨#[99, 97, 110, 115, 97, 121]⟩ = true := by decide +kernel
  have q14 : resB ⟨#[99, 97, 110, 115, 97, 121, 115]⟩ = false := by decide +kernel
  have q15 : resB ⟨#[]⟩ = false := by decide +kernel
  have q16 : prinB ⟨#[113, 117, 111, 116, 97]⟩ = false := by decide +kernel
  go_enter Tryd.func3, Tryd.ntmps3
  go_wp2_with (go_at_call 8; refine (lives_any _ hm).mono ?_; rintro e w1 ⟨rfl, hg⟩; have hb := hb.trans' hg; clear hg)
  refine (times_any ⟨#[97]⟩ 255 _ (by show 1 ≤ 1000000; omega) (by omega)).mono ?_
  rintro e w3 ⟨⟨r, rfl, hr⟩, rfl⟩
  obtain rfl := longS_of r hr
  clear hr
  have hls : longS.size = 255 := by decide +kernel
  have hls2 : longS.size ≤ maxLen := by rw [hls]; decide
  have hls3 : (longS ++ ⟨#[97]⟩).size ≤ maxLen := by rw [ByteArray.size_append, hls]; decide
  have f1 : prinB longS = true := by decide +kernel
  have f2 : prinB (longS ++ ⟨#[97]⟩) = false := by decide +kernel
  have hq := words_two
  have L2 := Lib.hid hls2
  have L3 := Lib.hid hls3
  clear hls2 hls3
  go_wp2_with (first
      | (go_at_call 12; refine (constant_any _ _ (by decide) (hm.bel hb)).mono ?_; rintro e w4 ⟨rfl, hg⟩; have hb := hb.trans' hg; clear hg)
      | (go_at_call 10; refine (principal_any _ _ (by decide) (hm.bel hb)).mono ?_; rintro e w4 ⟨rfl, hg⟩; have hb := hb.trans' hg; clear hg)
      | (go_at_call_of 11 (Value.string longS); refine (predicate_any _ _ L2.out (hm.bel hb)).mono ?_; rintro e w4 ⟨rfl, hg⟩; have hb := hb.trans' hg; clear hg)
      | (go_at_call_of 11 (Value.string (longS ++ ⟨#[97]⟩)); refine (predicate_any _ _ L3.out (hm.bel hb)).mono ?_; rintro e w4 ⟨rfl, hg⟩; have hb := hb.trans' hg; clear hg)
      | (go_at_call 11; refine (predicate_any _ _ (by decide) (hm.bel hb)).mono ?_; rintro e w4 ⟨rfl, hg⟩; have hb := hb.trans' hg; clear hg)
      | (go_at_call 14; refine (reserved_any _ _ (hm.bel hb)).mono ?_; rintro e w4 ⟨rfl, hg⟩; have hb := hb.trans' hg; clear hg)
      | (go_at_call 15; refine (words_any _ (hm.bel hb)).mono ?_; rintro e w4 ⟨rfl, rfl⟩; have hb := hb.trans' (bel_words _))
      | (go_at_call 13; refine (variable_any _ _ (by decide)).mono ?_; rintro e w4 ⟨rfl, hg⟩; have hb := hb.trans' hg; clear hg))
  go_ret
  exact ⟨rfl, hb⟩
end Go.Proofs.YtibnipmkjbojdaaDoor
