/-
  The walks of the statements of layer 1: each returns true, whatever it is given; nothing that was there has turned.
-/
import Derived.Test.YtibnipmkjbojdaaDoorSpE
import Derived.Test.YtibnipmkjbojdaaDoorKit
namespace Go.Proofs.YtibnipmkjbojdaaDoor
open Go.RowKit

theorem listAt_words (w w' : World) (h : Bel (wordsW w) w') : ListAt w' (some ⟨w.heap.size, 0, none⟩) wordsL.length (wordsL.map Value.string) := by
  have hlt : w.heap.size < (wordsW w).heap.size := by unfold wordsW; simp
  refine ⟨rfl, Or.inr ⟨w.heap.size, 0, rfl, Nat.lt_of_lt_of_le hlt h.size, fun j u hu => ?_⟩⟩
  have hj : j < 8 := by
    rcases Nat.lt_or_ge j 8 with h | h
    · exact h
    · rw [List.getElem?_eq_none (by simpa [wordsL] using h)] at hu; cases hu
  rw [cell_later h (words_cells w j hj)]
  rw [List.getElem?_map] at hu
  have hl : j < wordsL.length := hj
  rw [List.getElem?_eq_getElem hl] at hu
  simp only [List.getD, List.getElem?_eq_getElem hl, Option.getD_some]
  simpa using hu

theorem bel_words (w : World) : Bel w (wordsW w) := by unfold wordsW; exact Below.alloc (Below.refl _ _) (Nat.le_refl _) _

set_option maxHeartbeats 1000000 in
theorem lawCalls (s : ByteArray) (w : World) (hs : s.size ≤ maxLen) (hm : MaxAt w) :
    Calls Tryd.prog 4 #[.string s] w fun e w' => e = .returned (.bool true) ∧ Bel w w' := by
  have hs' := hs
  unfold maxLen at hs'
  have hb : Bel w w := Below.refl _ _
  by_cases h6 : 600 < s.size
  · go_enter Tryd.func4, Tryd.ntmps4
    go_wp2_with (go_at_call 8; refine (lives_any _ hm).mono ?_; rintro e w1 ⟨rfl, hg⟩; have hb := hb.trans' hg)
    go_ret
    exact ⟨rfl, hb⟩
  · go_enter Tryd.func4, Tryd.ntmps4
    go_wp2_with (first
      | (go_at_call 8; refine (lives_any _ hm).mono ?_; rintro e w1 ⟨rfl, hg⟩; have hb := hb.trans' hg; clear hg)
      | (go_at_call 10; refine (principal_any _ _ hs (hm.bel hb)).mono ?_; rintro e w1 ⟨rfl, hg⟩; have hb := hb.trans' hg; clear hg)
      | (go_at_call 16; refine (rPrincipal_any _ _ hs).mono ?_; rintro e w1 ⟨rfl, hg⟩; have hb := hb.trans' hg; clear hg)
      | (go_at_call 11; refine (predicate_any _ _ hs (hm.bel hb)).mono ?_; rintro e w1 ⟨rfl, hg⟩; have hb := hb.trans' hg; clear hg)
      | (go_at_call 17; refine (rPredicate_any _ _ hs).mono ?_; rintro e w1 ⟨rfl, hg⟩; have hb := hb.trans' hg; clear hg)
      | (go_at_call 12; refine (constant_any _ _ hs (hm.bel hb)).mono ?_; rintro e w1 ⟨rfl, hg⟩; have hb := hb.trans' hg; clear hg)
      | (go_at_call 18; refine (rConstant_any _ _ hs).mono ?_; rintro e w1 ⟨rfl, hg⟩; have hb := hb.trans' hg; clear hg)
      | (go_at_call 13; refine (variable_any _ _ hs).mono ?_; rintro e w1 ⟨rfl, hg⟩; have hb := hb.trans' hg; clear hg)
      | (go_at_call 19; refine (rVariable_any _ _ hs).mono ?_; rintro e w1 ⟨rfl, rfl⟩)
      | (go_at_call 14; refine (reserved_any _ _ (hm.bel hb)).mono ?_; rintro e w1 ⟨rfl, hg⟩; have hb := hb.trans' hg; clear hg)
      | (go_at_call 20; refine (rres_any _ _).mono ?_; rintro e w1 ⟨rfl, hg⟩; have hb := hb.trans' hg; clear hg))
    refine (words_any _ (hm.bel hb)).mono ?_
    rintro e w2 ⟨rfl, rfl⟩
    go_wp2_with (go_at_call 22; refine (rwords_any _).mono ?_; rintro e w2 ⟨rfl, rfl⟩)
    have hk1 : Bel w1 (wordsW w1) := bel_words w1
    have hk2 : Bel (wordsW w1) (wordsW (wordsW w1)) := bel_words _
    refine (same_any _ _ wordsL wordsL 8 8 _ (by decide) (by decide) (listAt_words _ _ hk2) (listAt_words _ _ (Below.refl _ _))).mono ?_
    rintro e w3 ⟨rfl, n, rfl⟩
    have hsame : sameS wordsL wordsL = true := decide_eq_true rfl
    go_wp2
    go_ret
    exact ⟨rfl, ((hb.trans' hk1).trans' hk2).trans' (bel_drewN _ _)⟩

theorem vari_size (s : ByteArray) (h : variB s = true) : 0 < s.size := by
  rcases Nat.eq_zero_or_pos s.size with h0 | h0
  · exfalso
    simp only [variB, nameB_nil uppB true s.data.toList (by simpa using h0)] at h
    cases h
  · exact h0
theorem vari_not_cons (s : ByteArray) (h : variB s = true) : consB s = false := by
  have h0 := vari_size s h
  obtain ⟨⟨l⟩⟩ := s
  cases l with
  | nil => simp [ByteArray.size] at h0
  | cons c r =>
    have h' : nameB uppB true (c :: r) = true := h
    show (nameB smaB false (c :: r) && !resB _) = false
    simp only [nameB, Bool.and_eq_true] at h'
    have hu : uppB c = true := h'.2.1
    have hn : smaB c = false := by
      simp only [uppB, Bool.and_eq_true, decide_eq_true_eq] at hu
      simp only [smaB, lowB, digB, Bool.or_eq_false_iff, Bool.and_eq_false_iff, decide_eq_false_iff_not]
      omega
    simp [nameB, hn]
theorem res_not_vari (s : ByteArray) (h : resB s = true) : variB s = false := by
  rw [resB_iff] at h
  simp only [wordsL, List.mem_cons, List.mem_nil_iff, or_false] at h
  rcases h with h | h | h | h | h | h | h | h <;> rw [h] <;> decide +kernel
theorem cons_not_prin (s : ByteArray) (h : consB s = true) (hp : prinB s = false) (h0 : 0 < s.size) : (48 ≤ (s[0].toNat : Int)) ∧ ((s[0].toNat : Int) ≤ 57) := by
  rw [prinB_cons s h0, h] at hp
  obtain ⟨⟨l⟩⟩ := s
  cases l with
  | nil => simp [ByteArray.size] at h0
  | cons c r =>
    have hp0 : (true && lowB c) = false := hp
    have hp' : lowB c = false := by simpa using hp0
    have h' : (nameB smaB false (c :: r) && !resB _) = true := h
    simp only [nameB, smaB, Bool.and_eq_true, Bool.or_eq_true, hp', Bool.false_eq_true, false_or] at h'
    have hd : digB c = true := h'.1.2.1
    have hq : (48 ≤ (c.toNat : Int)) ∧ ((c.toNat : Int) ≤ 57) := by simpa [digB] using hd
    exact hq
/-- the five kinds of strings -/
theorem kinds5 (s : ByteArray) : (variB s = true ∧ consB s = false ∧ prinB s = false ∧ resB s = false) ∨ (variB s = false ∧ consB s = true ∧ prinB s = true ∧ resB s = false) ∨
    (variB s = false ∧ consB s = true ∧ prinB s = false ∧ resB s = false) ∨ (variB s = false ∧ consB s = false ∧ prinB s = false ∧ resB s = true) ∨
    (variB s = false ∧ consB s = false ∧ prinB s = false ∧ resB s = false) := by
  have hcr : resB s = true → consB s = false := fun h => by simp [consB, h]
  rcases Bool.eq_false_or_eq_true (resB s) with hr | hr
  · have hc := hcr hr
    exact Or.inr (Or.inr (Or.inr (Or.inl ⟨res_not_vari s hr, hc, prinB_false s hc, hr⟩)))
  rcases Bool.eq_false_or_eq_true (variB s) with hv | hv
  · have hc := vari_not_cons s hv
    exact Or.inl ⟨hv, hc, prinB_false s hc, hr⟩
  rcases Bool.eq_false_or_eq_true (consB s) with hc | hc
  · rcases Bool.eq_false_or_eq_true (prinB s) with hp | hp
    · exact Or.inr (Or.inl ⟨hv, hc, hp, hr⟩)
    · exact Or.inr (Or.inr (Or.inl ⟨hv, hc, hp, hr⟩))
  · exact Or.inr (Or.inr (Or.inr (Or.inr ⟨hv, hc, prinB_false s hc, hr⟩)))

set_option maxHeartbeats 2000000 in
theorem lawKinds (s : ByteArray) (w : World) (hs : s.size ≤ maxLen) (hm : MaxAt w) :
    Calls Tryd.prog 5 #[.string s] w fun e w' => e = .returned (.bool true) ∧ Bel w w' := by
  have hs' := hs
  unfold maxLen at hs'
  have hb : Bel w w := Below.refl _ _
  by_cases h6 : 600 < s.size
  · go_enter Tryd.func5, Tryd.ntmps5
    go_wp2_with (go_at_call 8; refine (lives_any _ hm).mono ?_; rintro e w1 ⟨rfl, hg⟩; have hb := hb.trans' hg)
    go_ret
    exact ⟨rfl, hb⟩
  have hd : consB s = true → prinB s = false → ∃ h0 : 0 < s.size, (48 ≤ (s[0].toNat : Int)) ∧ ((s[0].toNat : Int) ≤ 57) := fun h hp => ⟨consB_size s h, cons_not_prin s h hp _⟩
  have hdd := Lib.hid hd
  clear hd
  rcases kinds5 s with ⟨k1, k2, k3, k4⟩ | ⟨k1, k2, k3, k4⟩ | ⟨k1, k2, k3, k4⟩ | ⟨k1, k2, k3, k4⟩ | ⟨k1, k2, k3, k4⟩
  case' inr.inr.inl => obtain ⟨h0, hd1, hd2⟩ := hdd.out k2 k3
  all_goals
    go_enter Tryd.func5, Tryd.ntmps5
    go_wp2_with (first
      | (go_at_call 8; refine (lives_any _ hm).mono ?_; rintro e w1 ⟨rfl, hg⟩; have hb := hb.trans' hg; clear hg)
      | (go_at_call 10; refine (principal_any _ _ hs (hm.bel hb)).mono ?_; rintro e w1 ⟨rfl, hg⟩; have hb := hb.trans' hg; clear hg)
      | (go_at_call 11; refine (predicate_any _ _ hs (hm.bel hb)).mono ?_; rintro e w1 ⟨rfl, hg⟩; have hb := hb.trans' hg; clear hg)
      | (go_at_call 12; refine (constant_any _ _ hs (hm.bel hb)).mono ?_; rintro e w1 ⟨rfl, hg⟩; have hb := hb.trans' hg; clear hg)
      | (go_at_call 13; refine (variable_any _ _ hs).mono ?_; rintro e w1 ⟨rfl, hg⟩; have hb := hb.trans' hg; clear hg)
      | (go_at_call 14; refine (reserved_any _ _ (hm.bel hb)).mono ?_; rintro e w1 ⟨rfl, hg⟩; have hb := hb.trans' hg; clear hg))
    go_ret
    exact ⟨rfl, hb⟩
end Go.Proofs.YtibnipmkjbojdaaDoor
