/-
  Digits that are read back, the last sign of a marked name. No condition. The bytes that a name may have. No condition.
-/
import Derived.Test.YtiokjjiakcbmhaaDoorTgA
import Derived.Lib.ItoaNum
import Derived.Lib.AtoiAllCases
import Derived.Lib.LastIndexByte
namespace Go.Proofs.YtiokjjiakcbmhaaDoor
open Go.RowKit

theorem dig_nat {u : Nat} (h : u < 10) : (UInt8.ofNat (48 + u)).toNat = 48 + u := UInt8.toNat_ofNat_of_lt' (by simp [UInt8.size]; omega)
theorem parse_snoc (c : UInt8) : ∀ (l : List UInt8) (acc x : Nat), Lib.parseUint10 acc l = .ok x → Lib.parseUint10 acc (l ++ [c]) = Lib.parseUint10 x [c]
  | [], acc, x, h => by
    simp only [Lib.parseUint10] at h
    injection h with h
    subst h
    rfl
  | a :: l, acc, x, h => by
    rw [List.cons_append]
    unfold Lib.parseUint10 at h ⊢
    split at h
    · rename_i h1
      split at h
      · cases h
      · rename_i h2
        split at h
        · cases h
        · rename_i h3
          rw [if_pos h1, if_neg h2, if_neg h3, parse_snoc c l _ x h]
          conv => lhs; unfold Lib.parseUint10
    · cases h
theorem parse_one {acc d : Nat} (hd : d < 10) (ha : acc < 1844674407370955161) : Lib.parseUint10 acc [UInt8.ofNat (48 + d)] = .ok (acc * 10 + d) := by
  unfold Lib.parseUint10
  have e := dig_nat hd
  rw [e, if_pos ⟨by omega, by omega⟩, if_neg (by omega), if_neg (by omega)]
  unfold Lib.parseUint10
  congr 1
  omega
theorem parse_digits : ∀ (n : Nat), n < 18446744073709551610 → Lib.parseUint10 0 (Lib.decDigits n) = .ok n := by
  intro n
  induction n using Nat.strongRecOn with
  | ind n ih =>
    intro hn
    by_cases h : n < 10
    · rw [Lib.decDigits_one h, parse_one h (by omega)]
      congr 1; omega
    · rw [Lib.decDigits, dif_neg h, parse_snoc _ _ _ _ (ih (n / 10) (by omega) (by omega)), parse_one (by omega) (by omega)]
      congr 1; omega
theorem digits_all : ∀ (n : Nat), ∀ b ∈ Lib.decDigits n, 48 ≤ b.toNat ∧ b.toNat ≤ 57 := by
  intro n
  induction n using Nat.strongRecOn with
  | ind n ih =>
    intro b hb
    by_cases h : n < 10
    · rw [Lib.decDigits_one h, List.mem_singleton] at hb
      rw [hb, dig_nat h]; omega
    · rw [Lib.decDigits, dif_neg h, List.mem_append, List.mem_singleton] at hb
      rcases hb with hb | hb
      · exact ih _ (by omega) b hb
      · rw [hb, dig_nat (by omega)]; omega
theorem digits_some (n : Nat) : ∃ c r, Lib.decDigits n = c :: r := by
  rw [Lib.decDigits]
  split
  · exact ⟨_, _, rfl⟩
  · cases h : Lib.decDigits (n / 10) with
    | nil => exact ⟨_, _, rfl⟩
    | cons c r => exact ⟨c, _, rfl⟩
theorem digits_len : ∀ (k n : Nat), n < 10 ^ (k + 1) → (Lib.decDigits n).length ≤ k + 1
  | 0, n, h => by
    rw [Lib.decDigits_one (by omega)]; simp
  | k + 1, n, h => by
    rw [Lib.decDigits]
    split
    · simp
    · rw [List.length_append]
      have := digits_len k (n / 10) (by rw [Nat.pow_succ] at h; omega)
      simp; omega
theorem atoi_digits {n : Nat} (h : n < 9223372036854775808) : Lib.atoiAll (Lib.decDigits n) = .ok (n : Int) := by
  obtain ⟨c, r, e⟩ := digits_some n
  have hc := digits_all n c (by rw [e]; exact List.mem_cons_self ..)
  have hp := parse_digits n (by omega)
  rw [e] at hp ⊢
  rw [Lib.atoiAll_plain c r (by omega) (by omega)]
  unfold Lib.parseMag
  rw [if_neg (by simp), hp]
  unfold Lib.signless
  simp only
  rw [if_neg (by omega)]
theorem digits_inj {i k : Nat} (hi : i < 9223372036854775808) (hk : k < 9223372036854775808) (h : Lib.decDigits i = Lib.decDigits k) : i = k := by
  have a := atoi_digits hi
  rw [h, atoi_digits hk] at a
  injection a with a
  omega

/-- what a mark adds to a name -/
def tagD (i : Nat) : ByteArray := ⟨#[35]⟩ ++ ⟨(Lib.decDigits i).toArray⟩
theorem tag_list (i : Nat) : (tagD i).data.toList = 35 :: Lib.decDigits i := by
  unfold tagD
  simp [ByteArray.data_append]
theorem marked_list (x : ByteArray) (i : Nat) : (x ++ tagD i).data.toList = x.data.toList ++ 35 :: Lib.decDigits i := by
  rw [ByteArray.data_append, Array.toList_append, tag_list]
theorem ba_extB {a b : ByteArray} (h : a.data.toList = b.data.toList) : a = b := by
  cases a; cases b
  congr 1
  exact Array.ext' h
theorem app_cancel {x y t : ByteArray} (h : x ++ t = y ++ t) : x = y := by
  have := congrArg (fun b => b.data.toList) h
  simp only [ByteArray.data_append, Array.toList_append] at this
  exact ba_extB (List.append_cancel_right this)
theorem app_cancelL {x y t : ByteArray} (h : t ++ x = t ++ y) : x = y := by
  have := congrArg (fun b => b.data.toList) h
  simp only [ByteArray.data_append, Array.toList_append] at this
  exact ba_extB (List.append_cancel_left this)
theorem app_size (x y : ByteArray) : (x ++ y).size = x.size + y.size := ByteArray.size_append
theorem ba_lenB (a : ByteArray) : a.data.toList.length = a.size := Array.length_toList
theorem app_front (x y : ByteArray) : (x ++ y).extract 0 x.size = x := by
  refine ba_extB ?_
  rw [ByteArray.data_extract, Array.toList_extract, ByteArray.data_append, Array.toList_append]
  show ((x.data.toList ++ y.data.toList).drop 0).take (x.size - 0) = _
  rw [List.drop_zero, Nat.sub_zero, ← ba_lenB x, List.take_left]
theorem app_back (x y z : ByteArray) : (x ++ (y ++ z)).extract (x.size + y.size) (x.size + y.size + z.size) = z := by
  refine ba_extB ?_
  rw [ByteArray.data_extract, Array.toList_extract, ByteArray.data_append, ByteArray.data_append, Array.toList_append, Array.toList_append]
  show ((x.data.toList ++ (y.data.toList ++ z.data.toList)).drop (x.size + y.size)).take (x.size + y.size + z.size - (x.size + y.size)) = _
  rw [← List.append_assoc, show x.size + y.size = (x.data.toList ++ y.data.toList).length by rw [List.length_append, ba_lenB, ba_lenB], List.drop_left, Nat.add_sub_cancel_left, ← ba_lenB z, List.take_length]
theorem last_sign (x : ByteArray) (y : ByteArray) (hy : ∀ b ∈ y.data.toList, b.toNat ≠ 35) : Lib.lastIndexByte (x ++ (⟨#[35]⟩ ++ y)) 35 = x.size := by
  have hl : (x ++ (⟨#[35]⟩ ++ y)).data.toList = x.data.toList ++ 35 :: y.data.toList := by simp [ByteArray.data_append]
  have hs : (x ++ (⟨#[35]⟩ ++ y)).size = x.size + (1 + y.size) := by rw [app_size, app_size]; rfl
  have hat : ∀ j (h : j < (x ++ (⟨#[35]⟩ ++ y)).data.toList.length), (x ++ (⟨#[35]⟩ ++ y)).data[j]! = (x ++ (⟨#[35]⟩ ++ y)).data.toList[j] := fun j h => by
    have h2 : j < (x ++ (⟨#[35]⟩ ++ y)).data.size := by rw [← Array.length_toList]; exact h
    rw [getElem!_pos _ j h2, Array.getElem_toList]
  have hlen : (x ++ (⟨#[35]⟩ ++ y)).data.toList.length = x.size + (1 + y.size) := by rw [Array.length_toList]; exact hs
  have hx : x.data.toList.length = x.size := Array.length_toList
  have behind : ∀ j, x.size < j → j < (x ++ (⟨#[35]⟩ ++ y)).size → (((x ++ (⟨#[35]⟩ ++ y)).data[j]!).toNat : Int) ≠ 35 := fun j h1 h2 => by
    rw [hat j (by omega)]
    have e : (x ++ (⟨#[35]⟩ ++ y)).data.toList[j]'(by omega) ∈ y.data.toList := by
      have : (x ++ (⟨#[35]⟩ ++ y)).data.toList[j]'(by omega) = (x.data.toList ++ 35 :: y.data.toList)[j]'(by rw [← hl]; omega) := by simp only [hl]
      rw [this, List.getElem_append_right (by omega)]
      obtain ⟨k, hk⟩ : ∃ k, j - x.data.toList.length = k + 1 := ⟨j - x.data.toList.length - 1, by omega⟩
      simp only [hk, List.getElem_cons_succ]
      exact List.getElem_mem _
    have := hy _ e
    omega
  have here : (((x ++ (⟨#[35]⟩ ++ y)).data[x.size]!).toNat : Int) = 35 := by
    rw [hat _ (by omega)]
    have : (x ++ (⟨#[35]⟩ ++ y)).data.toList[x.size]'(by omega) = (x.data.toList ++ 35 :: y.data.toList)[x.size]'(by rw [← hl]; omega) := by simp only [hl]
    rw [this, List.getElem_append_right (by omega)]
    simp only [hx, Nat.sub_self, List.getElem_cons_zero]
    rfl
  rcases Lib.lastIndexByte_spec (x ++ (⟨#[35]⟩ ++ y)) 35 with ⟨e, hn⟩ | ⟨i, hi, e, hc, hn⟩
  · exact absurd here (hn _ (by omega))
  · rw [e]
    rcases Nat.lt_trichotomy i x.size with h | h | h
    · exact absurd here (hn _ h (by omega))
    · rw [h]
    · exact absurd hc (behind i h hi)
theorem tag_sign (x : ByteArray) (i : Nat) : Lib.lastIndexByte (x ++ tagD i) 35 = x.size := last_sign x _ (fun b hb => by
  have := digits_all i b (by simpa using hb)
  omega)
end Go.Proofs.YtiokjjiakcbmhaaDoor
namespace Go.Proofs.YtiokjjiakcbmhaaDoor
open Go.RowKit

/-- the bytes that a name may have -/
def okb (c : UInt8) : Bool := latB true c
theorem okb_lat {m : Bool} {c : UInt8} (h : latB m c = true) : okb c = true := by
  unfold okb
  unfold latB at h ⊢
  cases m
  · simp only [Bool.or_eq_true, Bool.false_and, Bool.false_eq_true, or_false, Bool.true_and] at h ⊢
    exact .inl h
  · exact h
theorem okb_32 : okb 32 = false := by decide +kernel
theorem okb_40 : okb 40 = false := by decide +kernel
theorem okb_41 : okb 41 = false := by decide +kernel
theorem okb_44 : okb 44 = false := by decide +kernel
theorem name_ok {f : UInt8 → Bool} {m : Bool} (hf : ∀ c, f c = true → okb c = true) {l : List UInt8} (h : nameB f m l = true) : ∀ b ∈ l, okb b = true := by
  cases l with
  | nil => intro b hb; simp at hb
  | cons c r =>
    simp only [nameB, Bool.and_eq_true] at h
    obtain ⟨_, h1, h2⟩ := h
    intro b hb
    rcases List.mem_cons.1 hb with rfl | hb
    · exact hf _ h1
    · exact okb_lat (List.all_eq_true.1 h2 b hb)
theorem okb_low (c : UInt8) (h : lowB c = true) : okb c = true := by unfold okb latB smaB; simp [h]
theorem okb_sma (c : UInt8) (h : smaB c = true) : okb c = true := by unfold okb latB; simp [h]
theorem okb_upp (c : UInt8) (h : uppB c = true) : okb c = true := by unfold okb latB; simp [h]
theorem prin_ok {s : ByteArray} (h : prinB s = true) : ∀ b ∈ s.data.toList, okb b = true := by
  unfold prinB wordB at h
  rw [Bool.and_eq_true] at h
  exact name_ok okb_low h.1
theorem term_ok {t : TermD} (h : termB t = true) : ∀ b ∈ t.name.data.toList, okb b = true := by
  unfold termB at h
  split at h
  · exact name_ok okb_upp h
  · unfold consB at h
    rw [Bool.and_eq_true] at h
    exact name_ok okb_sma h.1
theorem cut : ∀ (x x' u u' : List UInt8) (c c' : UInt8), (∀ b ∈ x, okb b = true) → (∀ b ∈ x', okb b = true) → okb c = false → okb c' = false → x ++ c :: u = x' ++ c' :: u' → x = x' ∧ c = c' ∧ u = u'
  | [], [], u, u', c, c', _, _, _, _, h => by
    simp only [List.nil_append, List.cons.injEq] at h
    exact ⟨rfl, h.1, h.2⟩
  | [], y :: x', u, u', c, c', _, h2, h3, _, h => by
    simp only [List.nil_append, List.cons_append, List.cons.injEq] at h
    have := h2 y (by simp)
    rw [← h.1, h3] at this
    cases this
  | y :: x, [], u, u', c, c', h1, _, _, h4, h => by
    simp only [List.nil_append, List.cons_append, List.cons.injEq] at h
    have := h1 y (by simp)
    rw [h.1, h4] at this
    cases this
  | y :: x, y' :: x', u, u', c, c', h1, h2, h3, h4, h => by
    simp only [List.cons_append, List.cons.injEq] at h
    obtain ⟨e1, e2, e3⟩ := cut x x' u u' c c' (fun b hb => h1 b (by simp [hb])) (fun b hb => h2 b (by simp [hb])) h3 h4 h.2
    exact ⟨by rw [h.1, e1], e2, e3⟩
end Go.Proofs.YtiokjjiakcbmhaaDoor
