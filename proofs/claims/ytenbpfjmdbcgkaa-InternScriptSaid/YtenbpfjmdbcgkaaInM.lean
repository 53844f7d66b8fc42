/-
  The law of taking different strings, dropping all and taking them again. Condition: its two numbers fit in an int.
-/
import Derived.Test.YtenbpfjmdbcgkaaInL
import Derived.Test.YtenbpfjmdbcgkaaKitT
namespace Go.Proofs.Ytenbpfjmdbcgkaa
open Go.RowKit

theorem free_hitL {st : List (ByteArray × Nat)} {k : Nat} {s : ByteArray} (hw : ∀ j, j < k → ∀ x v, st[j]? = some (x, v) → 0 < v) (h : st[k]? = some (s, 0)) : freeAt st = k := by
  have hl := (List.getElem?_eq_some_iff.1 h).1
  unfold freeAt
  rw [List.findIdx_eq hl]
  refine ⟨by rw [(List.getElem?_eq_some_iff.1 h).2]; simp [usedB], fun j hj => ?_⟩
  have hjl : j < st.length := by omega
  have := hw j hj st[j].1 st[j].2 (by rw [List.getElem?_eq_getElem hjl])
  simpa [usedB] using this
theorem free_endL {st : List (ByteArray × Nat)} (hw : ∀ j, j < st.length → ∀ x v, st[j]? = some (x, v) → 0 < v) : freeAt st = st.length := by
  unfold freeAt
  rw [List.findIdx_eq_length]
  intro p hp
  obtain ⟨j, hj⟩ := List.mem_iff_getElem?.1 hp
  have := hw j (List.getElem?_eq_some_iff.1 hj).1 p.1 p.2 hj
  simpa [usedB] using this

/-- the letter a, m times -/
def aN (m : Nat) : ByteArray := ⟨(List.replicate m 97).toArray⟩
theorem aN_size (m : Nat) : (aN m).size = m := by
  show (List.replicate m (97 : UInt8)).toArray.size = m
  simp
theorem aN_inj {m n : Nat} (h : aN m = aN n) : m = n := by rw [← aN_size m, h, aN_size]
theorem aN_of {r : ByteArray} {m : Nat} (h : r.data.toList = timesL (⟨#[97]⟩ : ByteArray).data.toList m) : r = aN m := by
  apply ByteArray.ext
  apply Array.ext'
  rw [h]
  show timesL [97] m = (List.replicate m (97 : UInt8)).toArray.toList
  simp [timesL]
/-- a table of n entries, entry j as e says -/
def tabOf (n : Nat) (e : Nat → ByteArray × Nat) : List (ByteArray × Nat) := (List.range n).map e
theorem tabOf_len (n : Nat) (e : Nat → ByteArray × Nat) : (tabOf n e).length = n := by simp [tabOf]
theorem tabOf_at (n : Nat) (e : Nat → ByteArray × Nat) (j : Nat) : (tabOf n e)[j]? = if j < n then some (e j) else none := by
  unfold tabOf
  rw [List.getElem?_map]
  by_cases h : j < n
  · rw [if_pos h, List.getElem?_range h]; rfl
  · rw [if_neg h, List.getElem?_eq_none (by simp; omega)]; rfl
theorem tabOf_ext {n : Nat} {l : List (ByteArray × Nat)} {e : Nat → ByteArray × Nat} (hl : l.length = n) (h : ∀ j, j < n → l[j]? = some (e j)) : l = tabOf n e := by
  apply List.ext_getElem?
  intro j
  rw [tabOf_at]
  by_cases hj : j < n
  · rw [if_pos hj, h j hj]
  · rw [if_neg hj, List.getElem?_eq_none (by omega)]
theorem tabOf_used (n : Nat) (e : Nat → ByteArray × Nat) : usedN (tabOf n e) ≤ n := by
  have : usedN (tabOf n e) ≤ (tabOf n e).length := List.countP_le_length
  rwa [tabOf_len] at this
theorem usedN_all {st : List (ByteArray × Nat)} (h : ∀ p ∈ st, 0 < p.2) : usedN st = st.length := by
  unfold usedN
  rw [List.countP_eq_length]
  intro p hp
  simpa [usedB] using h p hp
theorem usedN_none {st : List (ByteArray × Nat)} (h : ∀ p ∈ st, p.2 = 0) : usedN st = 0 := by
  unfold usedN
  rw [List.countP_eq_zero]
  intro p hp
  simp [usedB, h p hp]
theorem tabOf_mem {n : Nat} {e : Nat → ByteArray × Nat} {p : ByteArray × Nat} (h : p ∈ tabOf n e) : ∃ j, j < n ∧ p = e j := by
  obtain ⟨j, hj⟩ := List.mem_iff_getElem?.1 h
  rw [tabOf_at] at hj
  split at hj
  · cases hj; exact ⟨j, by assumption, rfl⟩
  · cases hj

theorem numAt_missL {st : List (ByteArray × Nat)} {s : ByteArray} (hw : ∀ j v : Nat, st[j]? = some (s, v) → ¬ 0 < v) : numAt st s = none := by
  cases h : numAt st s with
  | none => rfl
  | some n =>
    obtain ⟨u, h1, h2⟩ := numAt_some h
    exact absurd h2 (hw n u h1)

theorem hasT_at {st : List (ByteArray × Nat)} {k u : Nat} {s : ByteArray} (h : st[k]? = some (s, u)) (hu : 0 < u) : hasT st (k : Int) = true := by simp [hasT, h, usedB, hu]
/-! ### the three runs -/
def T1 (i : Nat) : List (ByteArray × Nat) := tabOf i (fun j => (aN (j + 1), 1))
def T2 (n r i : Nat) : List (ByteArray × Nat) := tabOf n (fun j => if (j + (n - r)) % n < i then (ByteArray.empty, 0) else (aN (j + 1), 1))
def T3 (n r i : Nat) : List (ByteArray × Nat) := tabOf n (fun j => if j < i then (aN (1 + (j + r) % n), 1) else (ByteArray.empty, 0))
theorem T1_take (i : Nat) (hi : i < 50) : takeT (T1 i) (aN (i + 1)) = (T1 (i + 1), i, 0) := by
  have hm : numAt (T1 i) (aN (i + 1)) = none := numAt_missL (fun j v hj _ => by
    unfold T1 at hj
    rw [tabOf_at] at hj
    split at hj
    · have := aN_inj (congrArg Prod.fst (Option.some.inj hj)); omega
    · cases hj)
  have hfr : freeAt (T1 i) = (T1 i).length := free_endL (fun j _ x v hj => by
    unfold T1 at hj
    rw [tabOf_at] at hj
    split at hj
    · cases hj; omega
    · cases hj)
  have hu := tabOf_used i (fun j => (aN (j + 1), 1))
  have hl : (T1 i).length = i := tabOf_len _ _
  unfold takeT
  rw [if_neg (by rw [aN_size]; omega), hm]
  simp only
  rw [if_neg (by unfold T1; omega), hfr, if_neg (by omega), hl]
  refine Prod.ext ?_ rfl
  show T1 i ++ [(aN (i + 1), 1)] = T1 (i + 1)
  unfold T1 tabOf
  rw [List.range_succ, List.map_append]
  rfl
theorem T12 (n r : Nat) : T1 n = T2 n r 0 := by simp [T1, T2]
theorem mod_lt_of (n : Nat) (hn : 0 < n) (x : Nat) : x % n < n := Nat.mod_lt _ hn
theorem rot_back {n r i : Nat} (_hn : 0 < n) (hr : r < n) (hi : i < n) : ((i + r) % n + (n - r)) % n = i := by
  have h1 := Nat.mod_add_div (i + r) n
  by_cases h : i + r < n
  · rw [Nat.mod_eq_of_lt h, show i + r + (n - r) = i + n by omega, Nat.add_mod_right, Nat.mod_eq_of_lt hi]
  · have h2 : (i + r) % n = i + r - n := by
      rw [Nat.mod_eq_sub_mod (by omega), Nat.mod_eq_of_lt (by omega)]
    rw [h2, show i + r - n + (n - r) = i by omega, Nat.mod_eq_of_lt hi]
theorem rot_inj {n r i j : Nat} (hn : 0 < n) (hr : r < n) (hi : i < n) (hj : j < n) (h : (i + r) % n = (j + r) % n) : i = j := by
  rw [← rot_back hn hr hi, h, rot_back hn hr hj]
theorem rot_eq {n r i j : Nat} (_hn : 0 < n) (hr : r < n) (hj : j < n) (h : (j + (n - r)) % n = i) : (i + r) % n = j := by
  subst h
  by_cases h : j + (n - r) < n
  · rw [Nat.mod_eq_of_lt h, show j + (n - r) + r = j + n by omega, Nat.add_mod_right, Nat.mod_eq_of_lt hj]
  · have h2 : (j + (n - r)) % n = j + (n - r) - n := by
      rw [Nat.mod_eq_sub_mod (by omega), Nat.mod_eq_of_lt (by omega)]
    rw [h2, show j + (n - r) - n + r = j by omega, Nat.mod_eq_of_lt hj]
theorem T2_drop {n r i : Nat} (hr : r < n) (hi : i < n) : dropT (T2 n r i) (((i + r) % n : Nat) : Int) = (T2 n r (i + 1), 0) := by
  have hn : 0 < n := by omega
  have hk : (i + r) % n < n := mod_lt_of n hn _
  have hat : (T2 n r i)[(i + r) % n]? = some (aN ((i + r) % n + 1), 1) := by
    unfold T2
    rw [tabOf_at, if_pos hk, rot_back hn hr hi, if_neg (by omega)]
  have hh : hasT (T2 n r i) (((i + r) % n : Nat) : Int) = true := hasT_at hat (by omega)
  unfold dropT
  rw [if_pos hh, show (((i + r) % n : Nat) : Int).toNat = (i + r) % n by omega, modify_at hat, if_pos rfl]
  refine Prod.ext ?_ rfl
  show (T2 n r i).set ((i + r) % n) (ByteArray.empty, 0) = T2 n r (i + 1)
  refine tabOf_ext (by simp [T2, tabOf_len]) (fun j hj => ?_)
  rw [set_at (by unfold T2; rw [tabOf_len]; exact hk)]
  by_cases e : (i + r) % n = j
  · subst e
    rw [if_pos rfl, rot_back hn hr hi, if_pos (by omega)]
  · rw [if_neg e]
    unfold T2
    rw [tabOf_at, if_pos hj]
    have hne : (j + (n - r)) % n ≠ i := fun h => e (rot_eq hn hr hj h)
    by_cases h2 : (j + (n - r)) % n < i
    · rw [if_pos h2, if_pos (by omega)]
    · rw [if_neg h2, if_neg (by omega)]
theorem T23 (n r : Nat) : T2 n r n = T3 n r 0 := by
  unfold T2 T3
  refine tabOf_ext (by simp [tabOf_len]) (fun j hj => ?_)
  rw [tabOf_at, if_pos hj, if_pos (mod_lt_of n (by omega) _)]
  simp
theorem T2_none (n r : Nat) : usedN (T2 n r n) = 0 := usedN_none (fun p hp => by
  obtain ⟨j, hj, rfl⟩ := tabOf_mem hp
  rw [if_pos (mod_lt_of n (by omega) _)])
theorem T3_take {n r i : Nat} (hr : r < n) (hi : i < n) (hn50 : n < 50) : takeT (T3 n r i) (aN (1 + (i + r) % n)) = (T3 n r (i + 1), i, 0) := by
  have hn : 0 < n := by omega
  have hk : (i + r) % n < n := mod_lt_of n hn _
  have hm : numAt (T3 n r i) (aN (1 + (i + r) % n)) = none := numAt_missL (fun j v hj hv => by
    unfold T3 at hj
    rw [tabOf_at] at hj
    split at hj
    · rename_i hjn
      split at hj
      · rename_i hji
        have h1 := aN_inj (congrArg Prod.fst (Option.some.inj hj))
        have := rot_inj hn hr hjn hi (by omega : (j + r) % n = (i + r) % n)
        omega
      · have := congrArg Prod.snd (Option.some.inj hj); simp at this; omega
    · cases hj)
  have hfr : freeAt (T3 n r i) = i := free_hitL (s := ByteArray.empty) (fun j hji x v hj => by
    unfold T3 at hj
    rw [tabOf_at, if_pos (by omega), if_pos hji] at hj
    cases hj; omega) (by unfold T3; rw [tabOf_at, if_pos hi, if_neg (by omega)])
  have hu := tabOf_used n (fun j => if j < i then (aN (1 + (j + r) % n), 1) else (ByteArray.empty, 0))
  unfold takeT
  rw [if_neg (by rw [aN_size]; omega), hm]
  simp only
  rw [if_neg (by unfold T3; omega), hfr, if_pos (by unfold T3; rw [tabOf_len]; exact hi)]
  refine Prod.ext ?_ rfl
  show (T3 n r i).set i (aN (1 + (i + r) % n), 1) = T3 n r (i + 1)
  refine tabOf_ext (by simp [T3, tabOf_len]) (fun j hj => ?_)
  rw [set_at (by unfold T3; rw [tabOf_len]; exact hi)]
  by_cases e : i = j
  · subst e
    rw [if_pos rfl, if_pos (by omega)]
  · rw [if_neg e]
    unfold T3
    rw [tabOf_at, if_pos hj]
    by_cases h2 : j < i
    · rw [if_pos h2, if_pos (by omega)]
    · rw [if_neg h2, if_neg (by omega)]
theorem T3_all (n r : Nat) : usedN (T3 n r n) = n := by
  rw [usedN_all (fun p hp => by
    obtain ⟨j, hj, rfl⟩ := tabOf_mem hp
    rw [if_pos hj]; omega)]
  exact tabOf_len _ _
theorem tab_small {n : Nat} {e : Nat → ByteArray × Nat} (h : ∀ j, (e j).2 ≤ 1) : ∀ p ∈ tabOf n e, p.2 < 4611686018427387904 := fun p hp => by
  obtain ⟨j, _, rfl⟩ := tabOf_mem hp
  have := h j
  omega
theorem T1_step {w W : World} {t i : Nat} (h : Live w W t (T1 i)) (hi : i < 50) : Calls Try.prog 9 #[.pointer (some ⟨t, 0, none⟩), .string (aN (i + 1))] W fun e w' => e = .returned (.tuple #[.int .i64 i, .int .i64 0]) ∧ Live w w' t (T1 (i + 1)) := by
  have := h.take (aN (i + 1)) (tab_small (fun _ => Nat.le_refl _)) (by rw [aN_size]; omega)
  rw [T1_take i hi] at this
  exact this
theorem T2_step {w W : World} {t n r i : Nat} (h : Live w W t (T2 n r i)) (hr : r < n) (hi : i < n) : Calls Try.prog 14 #[.pointer (some ⟨t, 0, none⟩), .int .i64 (((i + r) % n : Nat) : Int)] W fun e w' => e = .returned (.int .i64 0) ∧ Live w w' t (T2 n r (i + 1)) := by
  have := h.drop (((i + r) % n : Nat) : Int) (tab_small (fun _ => by split <;> simp))
  rw [T2_drop hr hi] at this
  exact this
theorem T3_step {w W : World} {t n r i : Nat} (h : Live w W t (T3 n r i)) (hr : r < n) (hi : i < n) (hn : n < 50) : Calls Try.prog 9 #[.pointer (some ⟨t, 0, none⟩), .string (aN (1 + (i + r) % n))] W fun e w' => e = .returned (.tuple #[.int .i64 i, .int .i64 0]) ∧ Live w w' t (T3 n r (i + 1)) := by
  have := h.take (aN (1 + (i + r) % n)) (tab_small (fun _ => by split <;> simp)) (by rw [aN_size]; have := mod_lt_of n (by omega) (i + r); omega)
  rw [T3_take hr hi hn] at this
  exact this
theorem times_a (m : Nat) (w : World) (hm : m ≤ 1000) : Calls Try.prog 10 #[.string ⟨#[97]⟩, .int .i64 m] w fun e w' => e = .returned (.string (aN m)) ∧ w = w' :=
  (times_any ⟨#[97]⟩ m w (by decide) (by omega)).mono fun _ _ ⟨⟨_, he, hr⟩, hw⟩ => ⟨by rw [he, aN_of hr], hw⟩

theorem len_is {w W : World} {t : Nat} {st : List (ByteArray × Nat)} (h : Live w W t st) (m : Nat) (hm : usedN st = m) : Calls Try.prog 16 #[.pointer (some ⟨t, 0, none⟩)] W fun e w' => e = .returned (.int .i64 m) ∧ W = w' := by
  have := h.len
  rw [hm] at this
  exact this
set_option maxRecDepth 100000 in
set_option maxHeartbeats 4000000 in
theorem again_any (a b : Int) (w : World) (ha : -9223372036854775808 ≤ a ∧ a ≤ 9223372036854775807) (hb : -9223372036854775808 ≤ b ∧ b ≤ 9223372036854775807) :
    Calls Try.prog 6 #[.int .i64 a, .int .i64 b] w fun e w' => e = .returned (.bool true) ∧ Below w.heap.size w w' := by
  obtain ⟨n, hn⟩ : ∃ n : Nat, pickI a 50 = n := ⟨(pickI a 50).toNat, by have := pick_range a 50 (by omega); omega⟩
  have hn50 : n < 50 := by have := pick_range a 50 (by omega); omega
  obtain ⟨r, hr⟩ : ∃ r : Nat, 0 < n → (pickI b n = r ∧ r < n) := by
    by_cases h0 : 0 < n
    · exact ⟨(pickI b n).toNat, fun _ => by have := pick_range b n (by omega); omega⟩
    · exact ⟨0, fun h => absurd h h0⟩
  obtain ⟨a1, a2⟩ := ha
  obtain ⟨b1, b2⟩ := hb
  have HR := Lib.hid hr
  have HT1 := Lib.hid (T12 n r)
  have HT2 := Lib.hid (T23 n r)
  have HN2 := Lib.hid (T2_none n r)
  have HN3 := Lib.hid (T3_all n r)
  clear hr
  go_enter Try.func6, Try.ntmps6
  go_wp2_with (first | (go_at_call 7; refine (lives_any _).mono ?_; rintro e w1 ⟨rfl, h⟩; have HL := Lib.hid h; clear h) | (go_at_call 19; refine (pick_any a 50 _ (by omega) (by omega) a1 a2).mono ?_; rintro e w' ⟨rfl, rfl⟩) | (go_at_call 8; refine (New_live w _ HL.out).mono ?_; rintro e w2 ⟨t, rfl, h⟩; have H0 := Lib.hid h; clear h HL))
  clear hn
  go_loopw [6, 7, 8] (fun i _ _ wr => ∃ k : Nat, k ≤ n ∧ i = .int .i64 k ∧ RowKit.Hid (Live w wr t (T1 k))) (fun i _ _ _ => n - (intOf i).toNat)
  case atStart => exact ⟨0, Nat.zero_le _, rfl, H0⟩
  case round =>
    obtain ⟨k, hk, rfl, H⟩ := hrel
    clear H0
    by_cases hlt : k < n
    · obtain ⟨k1, hk1⟩ : ∃ k1, k1 = k + 1 := ⟨_, rfl⟩
      have e1 : (k : Int) + 1 = (k1 : Int) := by omega
      have hk2 : k1 ≤ n := by omega
      have hk3 : k < k1 := by omega
      have HS := Lib.hid (T1_step H.out (by omega : k < 50))
      rw [← hk1] at HS
      clear hk1 H
      go_wp2_with (first | (go_at_call 10; refine (times_a k1 _ (by omega)).mono ?_; rintro e w' ⟨rfl, rfl⟩) | (go_at_call 9; refine HS.out.mono ?_; rintro e w3 ⟨rfl, h⟩; have H3 := Lib.hid h; clear h HS))
      go_roundw
      case rel => exact ⟨k1, hk2, rfl, H3⟩
      case measure => simp [intOf]; omega
    · obtain rfl : k = n := by omega
      rw [HT1.out] at H
      go_wp2
      go_loopw [9] (fun i wr => ∃ j : Nat, j ≤ k ∧ i = .int .i64 j ∧ RowKit.Hid (Live w wr t (T2 k r j))) (fun i _ => k - (intOf i).toNat)
      case atStart => exact ⟨0, Nat.zero_le _, rfl, H⟩
      case round =>
        obtain ⟨j, hj, rfl, H2⟩ := hrel
        clear H
        by_cases hlt2 : j < k
        · obtain ⟨hr1, hr2⟩ := HR.out (by omega)
          obtain ⟨m, hm⟩ : ∃ m, m = j + r := ⟨_, rfl⟩
          obtain ⟨q, hq⟩ : ∃ q, q = (j + r) % k := ⟨_, rfl⟩
          have e1 : (j : Int) + (r : Int) = (m : Int) := by omega
          have e2 : (m : Int) % (k : Int) = (q : Int) := by rw [hq, hm]; omega
          have HS := Lib.hid (T2_step H2.out hr2 hlt2)
          rw [← hq] at HS
          have HP := Lib.hid hr1
          have hkp : 1 ≤ k := by omega
          clear hr1 hm hq H2
          go_wp2_with (first | (go_at_call 19; refine (pick_any b k _ (by omega) (by omega) b1 b2).mono ?_; rw [HP.out]; rintro e w' ⟨rfl, rfl⟩) | (go_at_call 14; refine HS.out.mono ?_; rintro e w3 ⟨rfl, h⟩; have H3 := Lib.hid h; clear h HS))
          go_roundw
          case rel => exact ⟨j + 1, by omega, by go_num, H3⟩
          case measure => simp [intOf]; omega
        · obtain rfl : j = k := by omega
          rw [HT2.out] at H2
          have HL := len_is H2.out 0 (by rw [← HT2.out, HN2.out])
          have HLL := Lib.hid HL
          clear HL
          go_wp2_with (go_at_call 16; refine HLL.out.mono ?_; rintro e w' ⟨rfl, rfl⟩)
          clear HLL
          go_loopw [10, 11, 12] (fun i _ _ wr => ∃ i3 : Nat, i3 ≤ j ∧ i = .int .i64 i3 ∧ RowKit.Hid (Live w wr t (T3 j r i3))) (fun i _ _ _ => j - (intOf i).toNat)
          case atStart => exact ⟨0, Nat.zero_le _, rfl, H2⟩
          case round =>
            obtain ⟨i3, hi3, rfl, H3⟩ := hrel
            clear H2
            by_cases hlt3 : i3 < j
            · obtain ⟨hr1, hr2⟩ := HR.out (by omega)
              obtain ⟨m, hm⟩ : ∃ m, m = i3 + r := ⟨_, rfl⟩
              obtain ⟨q, hq⟩ : ∃ q, q = (i3 + r) % j := ⟨_, rfl⟩
              obtain ⟨q1, hq1⟩ : ∃ q1, q1 = 1 + (i3 + r) % j := ⟨_, rfl⟩
              have e1 : (i3 : Int) + (r : Int) = (m : Int) := by omega
              have e2 : (m : Int) % (j : Int) = (q : Int) := by rw [hq, hm]; omega
              have e3 : 1 + (q : Int) = (q1 : Int) := by omega
              have hqj : q < j := by rw [hq]; exact mod_lt_of j (by omega) _
              have HS := Lib.hid (T3_step H3.out hr2 hlt3 hn50)
              rw [← hq1] at HS
              have HP := Lib.hid hr1
              have hkp : 1 ≤ j := by omega
              have hq2 : q1 ≤ 1000 := by omega
              clear hr1 hm hq H3 hq1
              go_wp2_with (first | (go_at_call 19; refine (pick_any b j _ (by omega) (by omega) b1 b2).mono ?_; rw [HP.out]; rintro e w' ⟨rfl, rfl⟩) | (go_at_call 10; refine (times_a q1 _ hq2).mono ?_; rintro e w' ⟨rfl, rfl⟩) | (go_at_call 9; refine HS.out.mono ?_; rintro e w3 ⟨rfl, h⟩; have H4 := Lib.hid h; clear h HS))
              go_roundw
              case rel => exact ⟨i3 + 1, by omega, by go_num, H4⟩
              case measure => simp [intOf]; omega
            · obtain rfl : i3 = j := by omega
              have HL := Lib.hid (len_is H3.out i3 HN3.out)
              have hb : ((i3 : Int) == (i3 : Int)) = true := by simp
              go_wp2_with (go_at_call 16; refine HL.out.mono ?_; rintro e w' ⟨rfl, rfl⟩)
              go_ret
              exact ⟨rfl, H3.out.bel⟩
end Go.Proofs.Ytenbpfjmdbcgkaa
