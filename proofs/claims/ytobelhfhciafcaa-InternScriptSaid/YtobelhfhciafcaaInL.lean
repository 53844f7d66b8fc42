/-
  The law's example of calls on a table. No condition.
-/
import Derived.Test.YtobelhfhciafcaaInW
namespace Go.Proofs.Ytobelhfhciafcaa
open Go.RowKit

/-- a table that the law made, in blocks made since w -/
def Live (w W : World) (t : Nat) (st : List (ByteArray × Nat)) : Prop := ∃ bs, Tab W t st bs ∧ (∀ b ∈ bs, w.heap.size ≤ b) ∧ Below w.heap.size w W
theorem Live.bel {w W : World} {t : Nat} {st : List (ByteArray × Nat)} (h : Live w W t st) : Below w.heap.size w W := by obtain ⟨_, _, _, h⟩ := h; exact h
theorem Live.keep {w W W' : World} {t : Nat} {st : List (ByteArray × Nat)} (h : Live w W t st) (hb : Below W.heap.size W W') : Live w W' t st := by
  obtain ⟨bs, hT, hbs, hw⟩ := h
  exact ⟨bs, hT.fr (Fr.of_below (F := []) hb) (by simp), hbs, hw.trans (hb.mono hw.size)⟩
theorem Live.to {w W W' : World} {t : Nat} {st' : List (ByteArray × Nat)} {bs : List Nat} (hbs : ∀ b ∈ bs, w.heap.size ≤ b) (hw : Below w.heap.size w W) (h : TabTo W W' t st' bs) : Live w W' t st' := by
  obtain ⟨bs', hT, hf, hn⟩ := h
  exact ⟨bs', hT, fun b hb => by rcases hn b hb with h | h; exact hbs b h; have := hw.size; omega, hw.trans (hf.below hbs hw.size)⟩
theorem Live.take {w W : World} {t : Nat} {st : List (ByteArray × Nat)} (h : Live w W t st) (s : ByteArray) (hu : ∀ p ∈ st, p.2 < 4611686018427387904) (hs : s.size ≤ 9223372036854775807) :
    Calls Try.prog 9 #[.pointer (some ⟨t, 0, none⟩), .string s] W fun e w' => e = .returned (.tuple #[.int .i64 (takeT st s).2.1, .int .i64 (takeT st s).2.2]) ∧ Live w w' t (takeT st s).1 := by
  obtain ⟨bs, hT, hbs, hw⟩ := h
  exact (Take_any t st bs s W hT hu hs).mono fun e w' ⟨he, ht⟩ => ⟨he, Live.to hbs hw ht⟩
theorem Live.drop {w W : World} {t : Nat} {st : List (ByteArray × Nat)} (h : Live w W t st) (n : Int) (hu : ∀ p ∈ st, p.2 < 4611686018427387904) :
    Calls Try.prog 11 #[.pointer (some ⟨t, 0, none⟩), .int .i64 n] W fun e w' => e = .returned (.int .i64 (dropT st n).2) ∧ Live w w' t (dropT st n).1 := by
  obtain ⟨bs, hT, hbs, hw⟩ := h
  exact (Drop_any t st bs n W hT hu).mono fun e w' ⟨he, ht⟩ => ⟨he, Live.to hbs hw ht⟩
theorem Live.text {w W : World} {t : Nat} {st : List (ByteArray × Nat)} (h : Live w W t st) (n : Int) : Calls Try.prog 13 #[.pointer (some ⟨t, 0, none⟩), .int .i64 n] W fun e w' => e = .returned (.tuple #[.string (textT st n), .int .i64 (textE st n)]) ∧ W = w' := by
  obtain ⟨bs, hT, hbs, hw⟩ := h
  exact Text_any t st bs n W hT
theorem Live.uses {w W : World} {t : Nat} {st : List (ByteArray × Nat)} (h : Live w W t st) (n : Int) : Calls Try.prog 18 #[.pointer (some ⟨t, 0, none⟩), .int .i64 n] W fun e w' => e = .returned (.int .i64 (usesT st n)) ∧ W = w' := by
  obtain ⟨bs, hT, hbs, hw⟩ := h
  exact Uses_any t st bs n W hT
theorem Live.len {w W : World} {t : Nat} {st : List (ByteArray × Nat)} (h : Live w W t st) : Calls Try.prog 20 #[.pointer (some ⟨t, 0, none⟩)] W fun e w' => e = .returned (.int .i64 (usedN st)) ∧ W = w' := by
  obtain ⟨bs, hT, hbs, hw⟩ := h
  exact Len_any t st bs W hT
theorem Live.find {w W : World} {t : Nat} {st : List (ByteArray × Nat)} (h : Live w W t st) (s : ByteArray) (hs : s.size ≤ 9223372036854775807) : Calls Try.prog 15 #[.pointer (some ⟨t, 0, none⟩), .string s] W fun e w' => e = .returned (.tuple #[.int .i64 (findN st s), .bool (findB st s)]) ∧ W = w' := by
  obtain ⟨bs, hT, hbs, hw⟩ := h
  exact Find_any t st bs s W hT hs
theorem New_live (w0 w : World) (h0 : Below w0.heap.size w0 w) : Calls Try.prog 6 #[] w fun e w' => ∃ t, e = .returned (.pointer (some ⟨t, 0, none⟩)) ∧ Live w0 w' t [] :=
  (New_any w).mono fun _ _ ⟨t, bs, he, hT, hbs, hb⟩ => ⟨t, he, bs, hT, fun b hb' => Nat.le_trans h0.size (hbs b hb'), h0.trans (hb.mono h0.size)⟩

def baA : ByteArray := ⟨#[97]⟩
def baB : ByteArray := ⟨#[98]⟩
def baC : ByteArray := ⟨#[99]⟩
theorem live1 : takeT [] baA = ([(baA, 1)], 0, 0) := by decide +kernel
theorem live2 : takeT [(baA, 1)] baB = ([(baA, 1), (baB, 1)], 1, 0) := by decide +kernel
theorem live3 : takeT [(baA, 1), (baB, 1)] baA = ([(baA, 2), (baB, 1)], 0, 0) := by decide +kernel
theorem live4 : dropT [(baA, 2), (baB, 1)] 0 = ([(baA, 1), (baB, 1)], 0) := by decide +kernel
theorem live5 : dropT [(baA, 1), (baB, 1)] 0 = ([(ByteArray.empty, 0), (baB, 1)], 0) := by decide +kernel
theorem live6 : takeT [(ByteArray.empty, 0), (baB, 1)] baC = ([(baC, 1), (baB, 1)], 0, 0) := by decide +kernel
theorem small {st : List (ByteArray × Nat)} (h : st.all (fun p => decide (p.2 < 1000)) = true) : ∀ p ∈ st, p.2 < 4611686018427387904 := fun p hp => by
  have := List.all_eq_true.1 h p hp
  simp at this
  omega
theorem step1 {w W : World} {t : Nat} (h : Live w W t []) : Calls Try.prog 9 #[.pointer (some ⟨t, 0, none⟩), .string ⟨#[97]⟩] W fun e w' => e = .returned (.tuple #[.int .i64 0, .int .i64 0]) ∧ Live w w' t [(baA, 1)] := by
  have := h.take baA (small (by decide)) (by decide)
  rw [live1] at this
  exact this
theorem step2 {w W : World} {t : Nat} (h : Live w W t [(baA, 1)]) : Calls Try.prog 9 #[.pointer (some ⟨t, 0, none⟩), .string ⟨#[98]⟩] W fun e w' => e = .returned (.tuple #[.int .i64 1, .int .i64 0]) ∧ Live w w' t [(baA, 1), (baB, 1)] := by
  have := h.take baB (small (by decide)) (by decide)
  rw [live2] at this
  exact this
theorem step3 {w W : World} {t : Nat} (h : Live w W t [(baA, 1), (baB, 1)]) : Calls Try.prog 9 #[.pointer (some ⟨t, 0, none⟩), .string ⟨#[97]⟩] W fun e w' => e = .returned (.tuple #[.int .i64 0, .int .i64 0]) ∧ Live w w' t [(baA, 2), (baB, 1)] := by
  have := h.take baA (small (by decide)) (by decide)
  rw [live3] at this
  exact this
theorem step4 {w W : World} {t : Nat} (h : Live w W t [(baA, 2), (baB, 1)]) : Calls Try.prog 11 #[.pointer (some ⟨t, 0, none⟩), .int .i64 0] W fun e w' => e = .returned (.int .i64 0) ∧ Live w w' t [(baA, 1), (baB, 1)] := by
  have := h.drop 0 (small (by decide))
  rw [live4] at this
  exact this
theorem step5 {w W : World} {t : Nat} (h : Live w W t [(baA, 1), (baB, 1)]) : Calls Try.prog 11 #[.pointer (some ⟨t, 0, none⟩), .int .i64 0] W fun e w' => e = .returned (.int .i64 0) ∧ Live w w' t [(ByteArray.empty, 0), (baB, 1)] := by
  have := h.drop 0 (small (by decide))
  rw [live5] at this
  exact this
theorem step6 {w W : World} {t : Nat} (h : Live w W t [(ByteArray.empty, 0), (baB, 1)]) : Calls Try.prog 9 #[.pointer (some ⟨t, 0, none⟩), .string ⟨#[99]⟩] W fun e w' => e = .returned (.tuple #[.int .i64 0, .int .i64 0]) ∧ Live w w' t [(baC, 1), (baB, 1)] := by
  have := h.take baC (small (by decide)) (by decide)
  rw [live6] at this
  exact this

set_option maxRecDepth 100000 in
set_option maxHeartbeats 4000000 in
theorem lives_any (w : World) : Calls Try.prog 4 #[] w fun e w' => e = .returned (.bool true) ∧ Below w.heap.size w w' := by
  go_enter Try.func4, Try.ntmps4
  go_wp2_with (first | (go_at_call 6; refine (New_live w _ (Below.refl _ _)).mono ?_; rintro e w0 ⟨t, rfl, h⟩; have H0 := Lib.hid h; clear h) | (go_at_call 9; refine (step1 H0.out).mono ?_; rintro e w1 ⟨rfl, h⟩; have H1 := Lib.hid h; clear h H0) | (go_at_call 9; refine (step2 H1.out).mono ?_; rintro e w2 ⟨rfl, h⟩; have H2 := Lib.hid h; clear h H1) | (go_at_call 9; refine (step3 H2.out).mono ?_; rintro e w3 ⟨rfl, h⟩; have H3 := Lib.hid h; clear h H2) | (go_at_call 11; refine (step4 H3.out).mono ?_; rintro e w4 ⟨rfl, h⟩; have H4 := Lib.hid h; clear h H3) | (go_at_call 11; refine (step5 H4.out).mono ?_; rintro e w5 ⟨rfl, h⟩; have H5 := Lib.hid h; clear h H4) | (go_at_call 9; refine (step6 H5.out).mono ?_; rintro e w6 ⟨rfl, h⟩; have H6 := Lib.hid h; clear h H5))
  go_ret
  exact ⟨rfl, H6.out.bel⟩
theorem numAt_missL {st : List (ByteArray × Nat)} {s : ByteArray} (hw : ∀ j v : Nat, st[j]? = some (s, v) → ¬ 0 < v) : numAt st s = none := by
  cases h : numAt st s with
  | none => rfl
  | some n =>
    obtain ⟨u, h1, h2⟩ := numAt_some h
    exact absurd h2 (hw n u h1)

theorem hasT_at {st : List (ByteArray × Nat)} {k u : Nat} {s : ByteArray} (h : st[k]? = some (s, u)) (hu : 0 < u) : hasT st (k : Int) = true := by simp [hasT, h, usedB, hu]
end Go.Proofs.Ytobelhfhciafcaa
