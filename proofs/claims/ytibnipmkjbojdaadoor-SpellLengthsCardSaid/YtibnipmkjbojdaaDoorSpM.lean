/-
  The walks of the statements SpellJoins, SpellLengths, SpellNames of layer 1: each returns true, whatever it is given; nothing that was there has turned.
-/
import Derived.Test.YtibnipmkjbojdaaDoorSpL
namespace Go.Proofs.YtibnipmkjbojdaaDoor
open Go.RowKit

theorem consB_parts (s : ByteArray) (h : consB s = true) : ∃ c r, s.data.toList = c :: r ∧ smaB c = true ∧ allB false r = true ∧ s.size ≤ 255 ∧ s.size = r.length + 1 := by
  obtain ⟨⟨l⟩⟩ := s
  cases l with
  | nil => simp [consB, nameB] at h
  | cons c r =>
    have h' : (nameB smaB false (c :: r) && !resB _) = true := h
    simp only [nameB, Bool.and_eq_true, decide_eq_true_eq] at h'
    exact ⟨c, r, rfl, h'.1.2.1, h'.1.2.2, h'.1.1, rfl⟩
theorem allB_append (m : Bool) (a b : List UInt8) : allB m (a ++ b) = (allB m a && allB m b) := by simp [allB]
theorem res_no95 (x : ByteArray) (h : (95 : UInt8) ∈ x.data.toList) : resB x = false := by
  rw [Bool.eq_false_iff]
  intro hr
  rw [resB_iff] at hr
  simp only [wordsL, List.mem_cons, List.mem_nil_iff, or_false] at hr
  rcases hr with hr | hr | hr | hr | hr | hr | hr | hr <;> rw [hr] at h <;> revert h <;> decide
theorem join_list (s t x : ByteArray) (hx : x.data.toList = s.data.toList ++ 95 :: t.data.toList) (hs : consB s = true) (ht : consB t = true) :
    consB x = decide (x.size ≤ 255) ∧ prinB x = (decide (x.size ≤ 255) && prinB s) := by
  obtain ⟨c, r, e1, hc, hr, _, _⟩ := consB_parts s hs
  obtain ⟨d, q, e2, hd, hq, _, _⟩ := consB_parts t ht
  have hres : resB x = false := res_no95 x (by rw [hx]; simp)
  have hs0 := consB_size s hs
  have hlow : prinB s = lowB c := by
    rw [prinB_cons s hs0, hs]
    obtain ⟨⟨l⟩⟩ := s
    simp only at e1
    subst e1
    rfl
  have hl : x.size = x.data.toList.length := (ba_len x).symm
  have hall : allB false (r ++ 95 :: d :: q) = true := by
    rw [allB_append, hr]
    have : allB false (95 :: d :: q) = (latB false 95 && (latB false d && allB false q)) := rfl
    rw [this, hq]
    have h1 : latB false 95 = true := by decide
    have h2 : latB false d = true := by show (smaB d || _ || _) = true; rw [hd]; rfl
    rw [h1, h2]; rfl
  have hp : prinB x = (nameB lowB false x.data.toList && !resB x) := rfl
  have hq2 : consB x = (nameB smaB false x.data.toList && !resB x) := rfl
  rw [hp, hq2, hres, hlow, hl, hx, e1, e2]
  simp only [List.cons_append, nameB, hall, hc, Bool.not_false, Bool.and_true, Bool.and_self]
  exact ⟨trivial, trivial⟩
theorem lead_list (s x : ByteArray) (b : UInt8) (hx : x.data.toList = b :: s.data.toList) (hs : consB s = true) :
    variB x = (uppB b && decide (s.size < 255)) ∧ (smaB b = false → consB x = false) := by
  obtain ⟨c, r, e1, hc, hr, _, h1⟩ := consB_parts s hs
  have hall : ∀ m, allB m (c :: r) = true := by
    intro m
    rw [allB_cons]
    have h1 : latB m c = true := by show (smaB c || _ || _) = true; rw [hc]; rfl
    rw [h1]
    unfold allB at hr ⊢
    rw [List.all_eq_true] at hr
    simp only [Bool.true_and, List.all_eq_true]
    intro y hy
    have := hr y hy
    show (smaB y || _ || _) = true
    have h2 : (smaB y || ((y.toNat : Int) == 95) || (false && uppB y)) = true := this
    simp only [Bool.false_and, Bool.or_false] at h2
    show ((smaB y || ((y.toNat : Int) == 95)) || _) = true
    rw [h2]; rfl
  refine ⟨?_, fun hb => ?_⟩
  · unfold variB
    rw [hx, e1]
    simp only [nameB, hall, Bool.and_true, h1, List.length_cons]
    rw [Bool.and_comm]
    congr 1
  · unfold consB
    rw [hx, e1]
    simp [nameB, hb]
theorem vari_lead (s x : ByteArray) (b : UInt8) (hx : x.data.toList = b :: s.data.toList) (hs : variB s = true) : consB x = false := by
  have h0 := vari_size s hs
  obtain ⟨⟨l⟩⟩ := s
  cases l with
  | nil => simp [ByteArray.size] at h0
  | cons c r =>
    have h' : nameB uppB true (c :: r) = true := hs
    simp only [nameB, Bool.and_eq_true] at h'
    have hu : uppB c = true := h'.2.1
    have hn : latB false c = false := by
      simp only [uppB, Bool.and_eq_true, decide_eq_true_eq] at hu
      simp only [latB, smaB, lowB, digB, Bool.or_eq_false_iff, Bool.and_eq_false_iff, decide_eq_false_iff_not, Bool.false_and, and_true]
      omega
    unfold consB
    rw [hx]
    simp [nameB, allB_cons, hn]

set_option maxRecDepth 100000 in
set_option maxHeartbeats 4000000 in
theorem lawJoins (s t : ByteArray) (w : World) (hs : s.size ≤ maxLen) (ht : t.size ≤ maxLen) (hm : MaxAt w) :
    Calls Tryd.prog 6 #[.string s, .string t] w fun e w' => e = .returned (.bool true) ∧ Bel w w' := by
  have hs' := hs
  have ht' := ht
  unfold maxLen at hs' ht'
  have hb : Bel w w := Below.refl _ _
  by_cases h6 : 600 < s.size
  · go_enter Tryd.func6, Tryd.ntmps6
    go_wp2_with (go_at_call 8; refine (lives_any _ hm).mono ?_; rintro e w1 ⟨rfl, hg⟩; have hb := hb.trans' hg)
    go_ret
    exact ⟨rfl, hb⟩
  by_cases h7 : 600 < t.size
  · go_enter Tryd.func6, Tryd.ntmps6
    go_wp2_with (go_at_call 8; refine (lives_any _ hm).mono ?_; rintro e w1 ⟨rfl, hg⟩; have hb := hb.trans' hg)
    go_ret
    exact ⟨rfl, hb⟩
  have x1 : (s ++ ⟨#[95]⟩ ++ t).data.toList = s.data.toList ++ 95 :: t.data.toList := by rw [ba_append, ba_append]; simp
  have x2 : (ByteArray.mk #[88] ++ s).data.toList = 88 :: s.data.toList := by rw [ba_append]; rfl
  have x3 : (ByteArray.mk #[95] ++ s).data.toList = 95 :: s.data.toList := by rw [ba_append]; rfl
  have x4 : (ByteArray.mk #[97] ++ s).data.toList = 97 :: s.data.toList := by rw [ba_append]; rfl
  have y1 : (s ++ ⟨#[95]⟩ ++ t).size = s.size + 1 + t.size := by rw [ByteArray.size_append, ByteArray.size_append]; rfl
  have y2 : ∀ c : UInt8, (ByteArray.mk #[c] ++ s).size = 1 + s.size := fun c => by rw [ByteArray.size_append]; rfl
  have z1 : (s ++ ⟨#[95]⟩ ++ t).size ≤ maxLen := by rw [y1]; unfold maxLen; omega
  have z2 : ∀ c : UInt8, (ByteArray.mk #[c] ++ s).size ≤ maxLen := fun c => by rw [y2]; unfold maxLen; omega
  have a1 := join_list s t _ x1
  have a2 := lead_list s _ 88 x2
  have a3 := lead_list s _ 95 x3
  have a4 := vari_lead s _ 97 x4
  have a5 := vari_not_cons s
  rw [y1] at a1
  have Z1 := Lib.hid z1
  have Z2 := Lib.hid z2
  clear x1 x2 x3 x4 y1 y2 z1 z2
  rcases Bool.eq_false_or_eq_true (consB s) with k1 | k1
  · have n1 : variB s = false := by
      rcases Bool.eq_false_or_eq_true (variB s) with h | h
      · have := a5 h; rw [k1] at this; cases this
      · exact h
    have n2 := (a2 k1).2 (by decide)
    have n3 := (a3 k1).2 (by decide)
    have n4 := (a2 k1).1
    have n5 : uppB 88 = true := by decide
    rw [n5, Bool.true_and] at n4
    have A1 := Lib.hid (a1 k1)
    clear a1 a2 a3 a4 a5 n5
    by_cases h9 : s.size < 255
    all_goals
      simp only [h9, decide_true, decide_false] at n4
      rcases Bool.eq_false_or_eq_true (consB t) with k2 | k2
      · have b1 := (A1.out k2).1
        have b2 := (A1.out k2).2
        clear A1
        by_cases h8 : s.size + 1 + t.size ≤ 255
        all_goals
          rcases Bool.eq_false_or_eq_true (prinB s) with k3 | k3
          all_goals
            simp only [h8, k3, decide_true, decide_false, Bool.true_and, Bool.false_and] at b1 b2
            go_enter Tryd.func6, Tryd.ntmps6
            go_wp2_with (first
              | (go_at_call 8; refine (lives_any _ hm).mono ?_; rintro e w1 ⟨rfl, hg⟩; have hb := hb.trans' hg; clear hg)
              | (go_at_call 12; refine (constant_any _ _ (by first | exact hs | exact ht | exact Z1.out | exact Z2.out _) (hm.bel hb)).mono ?_; rintro e w1 ⟨rfl, hg⟩; have hb := hb.trans' hg; clear hg)
              | (go_at_call 10; refine (principal_any _ _ (by first | exact hs | exact ht | exact Z1.out | exact Z2.out _) (hm.bel hb)).mono ?_; rintro e w1 ⟨rfl, hg⟩; have hb := hb.trans' hg; clear hg)
              | (go_at_call 13; refine (variable_any _ _ (by first | exact hs | exact ht | exact Z1.out | exact Z2.out _)).mono ?_; rintro e w1 ⟨rfl, hg⟩; have hb := hb.trans' hg; clear hg))
            all_goals go_ret
            all_goals exact ⟨by first | rfl | (simp; omega), hb⟩
      · clear A1
        go_enter Tryd.func6, Tryd.ntmps6
        go_wp2_with (first
          | (go_at_call 8; refine (lives_any _ hm).mono ?_; rintro e w1 ⟨rfl, hg⟩; have hb := hb.trans' hg; clear hg)
          | (go_at_call 12; refine (constant_any _ _ (by first | exact hs | exact ht | exact Z1.out | exact Z2.out _) (hm.bel hb)).mono ?_; rintro e w1 ⟨rfl, hg⟩; have hb := hb.trans' hg; clear hg)
          | (go_at_call 10; refine (principal_any _ _ (by first | exact hs | exact ht | exact Z1.out | exact Z2.out _) (hm.bel hb)).mono ?_; rintro e w1 ⟨rfl, hg⟩; have hb := hb.trans' hg; clear hg)
          | (go_at_call 13; refine (variable_any _ _ (by first | exact hs | exact ht | exact Z1.out | exact Z2.out _)).mono ?_; rintro e w1 ⟨rfl, hg⟩; have hb := hb.trans' hg; clear hg))
        go_ret
        exact ⟨by first | rfl | (simp; omega), hb⟩
  · clear a1 a2 a3
    rcases Bool.eq_false_or_eq_true (variB s) with k3 | k3
    · have n1 := a4 k3
      clear a4 a5
      go_enter Tryd.func6, Tryd.ntmps6
      go_wp2_with (first
        | (go_at_call 8; refine (lives_any _ hm).mono ?_; rintro e w1 ⟨rfl, hg⟩; have hb := hb.trans' hg; clear hg)
        | (go_at_call 12; refine (constant_any _ _ (by first | exact hs | exact ht | exact Z1.out | exact Z2.out _) (hm.bel hb)).mono ?_; rintro e w1 ⟨rfl, hg⟩; have hb := hb.trans' hg; clear hg)
        | (go_at_call 10; refine (principal_any _ _ (by first | exact hs | exact ht | exact Z1.out | exact Z2.out _) (hm.bel hb)).mono ?_; rintro e w1 ⟨rfl, hg⟩; have hb := hb.trans' hg; clear hg)
        | (go_at_call 13; refine (variable_any _ _ (by first | exact hs | exact ht | exact Z1.out | exact Z2.out _)).mono ?_; rintro e w1 ⟨rfl, hg⟩; have hb := hb.trans' hg; clear hg))
      go_ret
      exact ⟨rfl, hb⟩
    · clear a4 a5
      go_enter Tryd.func6, Tryd.ntmps6
      go_wp2_with (first
        | (go_at_call 8; refine (lives_any _ hm).mono ?_; rintro e w1 ⟨rfl, hg⟩; have hb := hb.trans' hg; clear hg)
        | (go_at_call 12; refine (constant_any _ _ (by first | exact hs | exact ht | exact Z1.out | exact Z2.out _) (hm.bel hb)).mono ?_; rintro e w1 ⟨rfl, hg⟩; have hb := hb.trans' hg; clear hg)
        | (go_at_call 10; refine (principal_any _ _ (by first | exact hs | exact ht | exact Z1.out | exact Z2.out _) (hm.bel hb)).mono ?_; rintro e w1 ⟨rfl, hg⟩; have hb := hb.trans' hg; clear hg)
        | (go_at_call 13; refine (variable_any _ _ (by first | exact hs | exact ht | exact Z1.out | exact Z2.out _)).mono ?_; rintro e w1 ⟨rfl, hg⟩; have hb := hb.trans' hg; clear hg))
      go_ret
      exact ⟨rfl, hb⟩
end Go.Proofs.YtibnipmkjbojdaaDoor
