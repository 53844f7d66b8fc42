/-
  The walks of the statements' own helpers of layer 1: Same of two lists of strings, Times, Pick. Conditions: as each says.
-/
import Derived.Test.YtibnipmkjbojdaaDoorSpB
import Derived.Deep.QuietTactic
import Derived.BigQuiet
namespace Go.Proofs.YtibnipmkjbojdaaDoor
open Go.RowKit

/-- the slice value's first n cells are xs, one cell each -/
def ListAt (w : World) (A : Option Addr) (n : Nat) (xs : List Value) : Prop :=
  xs.length = n ∧ (n = 0 ∨ ∃ b o, A = some ⟨b, o, none⟩ ∧ b < w.heap.size ∧ ∀ j u, xs[j]? = some u → w.cell? ⟨b, o + j, none⟩ = some u)

theorem bel_drewN (w : World) (n : Nat) : Bel w (w.drewN n) := by
  induction n with
  | zero => exact Below.refl _ _
  | succ n ih => exact Below.drew ih

def sameS (xs ys : List ByteArray) : Bool := decide (xs = ys)
theorem sameS_len (xs ys : List ByteArray) (h : xs.length ≠ ys.length) : sameS xs ys = false := decide_eq_false (fun e => h (by rw [e]))
theorem sameS_at (xs ys : List ByteArray) (k : Nat) (h1 : k < xs.length) (h2 : k < ys.length) (h : xs[k] ≠ ys[k]) : sameS xs ys = false :=
  decide_eq_false (fun e => by subst e; exact h rfl)
theorem sameS_all (xs ys : List ByteArray) (hl : xs.length = ys.length) (h : ∀ j, j < xs.length → xs[j]? = ys[j]?) : sameS xs ys = true :=
  decide_eq_true (by
    apply List.ext_getElem? ; intro j
    by_cases hj : j < xs.length
    · exact h j hj
    · rw [List.getElem?_eq_none (by omega), List.getElem?_eq_none (by omega)])

set_option maxHeartbeats 1000000 in
theorem same_any (A B : Option Addr) (xs ys : List ByteArray) (ca cb : Nat) (w : World) (hx : xs.length ≤ maxLen) (_hy : ys.length ≤ maxLen)
    (ha : ListAt w A xs.length (xs.map .string)) (hb : ListAt w B ys.length (ys.map .string)) :
    Calls Tryd.prog 21 #[.slice A xs.length ca, .slice B ys.length cb] w fun e w' => e = .returned (.bool (sameS xs ys)) ∧ ∃ n, w' = w.drewN n := by
  unfold maxLen at hx
  by_cases hl : xs.length = ys.length
  · have HL := Lib.hid hl
    have hl2 : ((xs.length : Int) != (ys.length : Int)) = false := by rw [hl]; simp
    have hl3 : xs.length ≤ ys.length := by omega
    have hl4 : ys.length ≤ xs.length := by omega
    clear hl
    go_enter Tryd.func21, Tryd.ntmps21
    go_wp2
    clear hl2
    go_loopw [5] (fun i wr => ∃ k : Nat, k ≤ xs.length ∧ i = .int .i64 k ∧ RowKit.Hid (∀ j, j < k → xs[j]? = ys[j]?) ∧ ∃ n, wr = w.drewN n) (fun i _ => xs.length - (intOf i).toNat)
    case atStart => exact ⟨0, Nat.zero_le _, rfl, Lib.hid (by simp), 0, rfl⟩
    case round =>
      obtain ⟨k, hk, rfl, H, n, rfl⟩ := hrel
      by_cases hlt : k < xs.length
      · have hlt2 : k < ys.length := by omega
        obtain ⟨_, hA⟩ := ha
        obtain ⟨_, hB⟩ := hb
        rcases hA with h0 | ⟨b1, o1, rfl, hb1, hc1⟩
        · omega
        rcases hB with h0 | ⟨b2, o2, rfl, hb2, hc2⟩
        · omega
        have c1 := hc1 k (.string xs[k]) (by simp [hlt])
        have c2 := hc2 k (.string ys[k]) (by simp [hlt2])
        clear hc1 hc2
        have hq1 : (0 : Int) ≤ k := by omega
        have hq2 : (k : Int) < xs.length := by omega
        have hq3 : (k : Int) < ys.length := by omega
        by_cases h1 : xs[k] = ys[k]
        · have HN : RowKit.Hid (∀ j, j < k + 1 → xs[j]? = ys[j]?) := Lib.hid (fun j hj => by
            by_cases e : j = k
            · subst e; rw [List.getElem?_eq_getElem hlt, List.getElem?_eq_getElem hlt2, h1]
            · exact H.out j (by omega))
          have h1b : (xs[k].toList == ys[k].toList) = true := by rw [h1]; simp
          clear h1
          go_wp2
          go_quiet (fail)
          go_wp2
          go_roundw
          case rel => exact ⟨k + 1, by omega, by go_num, HN, n + nq, by first | rfl | rw [World.drewN_drewN]⟩
          case measure => simp [intOf]; omega
        · have HN := Lib.hid (sameS_at xs ys k hlt hlt2 h1)
          have h1b : (xs[k].toList == ys[k].toList) = false := by simp; exact fun e => h1 (by rw [ByteArray.toList_eq, ByteArray.toList_eq] at e; exact ByteArray.ext (Array.ext' e))
          clear h1
          go_wp2
          go_quiet (fail)
          go_wp2
          go_ret
          exact ⟨by rw [HN.out]; rfl, n + nq, by first | rfl | rw [World.drewN_drewN]⟩
      · have HN := Lib.hid (sameS_all xs ys HL.out (fun j hj => H.out j (by omega)))
        go_wp2
        go_ret
        exact ⟨by rw [HN.out]; rfl, n, rfl⟩
  · have HN := Lib.hid (sameS_len xs ys hl)
    have hl2 : ((xs.length : Int) != (ys.length : Int)) = true := by simp; omega
    clear hl
    go_enter Tryd.func21, Tryd.ntmps21
    go_wp2
    go_ret
    exact ⟨by rw [HN.out]; rfl, 0, rfl⟩

/-- s, n times -/
def timesL (s : List UInt8) (n : Nat) : List UInt8 := (List.replicate n s).flatten
theorem timesL_len (s : List UInt8) (n : Nat) : (timesL s n).length = n * s.length := by simp [timesL]
theorem timesL_two (s : List UInt8) (n : Nat) : timesL (s ++ s) n = timesL s (2 * n) := by
  induction n with
  | zero => rfl
  | succ n ih =>
    have e : 2 * (n + 1) = 2 * n + 1 + 1 := by omega
    rw [e]
    simp only [timesL, List.replicate_succ, List.flatten_cons] at ih ⊢
    rw [ih, List.append_assoc]
theorem timesL_comm (s : List UInt8) (n : Nat) : s ++ timesL s n = timesL s n ++ s := by
  induction n with
  | zero => simp [timesL]
  | succ n ih =>
    simp only [timesL, List.replicate_succ, List.flatten_cons] at ih ⊢
    rw [List.append_assoc, ← ih]
theorem times_odd (o s t : List UInt8) (m : Nat) (h : o ++ timesL s m = t) (ho : m % 2 = 1) : (o ++ s) ++ timesL (s ++ s) (m / 2) = t := by
  rw [timesL_two, List.append_assoc, ← h]
  have e : m = 2 * (m / 2) + 1 := by omega
  conv => rhs; rw [e]
  simp only [timesL, List.replicate_succ, List.flatten_cons]
theorem times_even (o s t : List UInt8) (m : Nat) (h : o ++ timesL s m = t) (ho : m % 2 = 0) : o ++ timesL (s ++ s) (m / 2) = t := by
  rw [timesL_two, ← h]
  have e : m = 2 * (m / 2) := by omega
  conv => rhs; rw [e]
theorem ba_append (a b : ByteArray) : (a ++ b).data.toList = a.data.toList ++ b.data.toList := by simp [ByteArray.data_append]
theorem ba_len (a : ByteArray) : a.data.toList.length = a.size := Array.length_toList

theorem times_fits (o s : ByteArray) (t : List UInt8) (m : Nat) (h : o.data.toList ++ timesL s.data.toList m = t) : o.size + m * s.size = t.length := by
  have := congrArg List.length h
  rw [List.length_append, timesL_len, ba_len, ba_len] at this
  exact this

set_option maxHeartbeats 1000000 in
theorem times_any (s : ByteArray) (n : Nat) (w : World) (hs : s.size ≤ 1000000) (hn : n ≤ 1000000) :
    Calls Tryd.prog 9 #[.string s, .int .i64 n] w fun e w' => (∃ r : ByteArray, e = .returned (.string r) ∧ r.data.toList = timesL s.data.toList n) ∧ w = w' := by
  have hbig : n * s.size ≤ 1000000 * 1000000 := Nat.mul_le_mul hn hs
  have HT := Lib.hid (show (timesL s.data.toList n).length = n * s.size by rw [timesL_len, ba_len])
  generalize ht : timesL s.data.toList n = t at *
  have Ht := Lib.hid ht; clear ht
  have hl : t.length ≤ 1000000 * 1000000 := by rw [HT.out]; exact hbig
  clear hbig
  go_enter Tryd.func9, Tryd.ntmps9
  go_wp2
  go_loop [0, 1, 5] (fun c i o => ∃ (m : Nat) (cs os : ByteArray), m ≤ 1000000 ∧ c = .string cs ∧ i = .int .i64 m ∧ o = .string os ∧ RowKit.Hid (os.data.toList ++ timesL cs.data.toList m = t) ∧ cs.size ≤ 2000000000000 ∧ os.size ≤ 2000000000000) (fun _ i _ => (intOf i).toNat)
  case atStart => exact ⟨n, s, ByteArray.empty, hn, rfl, rfl, rfl, Lib.hid (by rw [Ht.out]; rfl), by omega, by simp⟩
  case round =>
    obtain ⟨m, cs, os, hm, rfl, rfl, rfl, H, hcs, hos⟩ := hrel
    have hfit := times_fits _ _ _ _ H.out
    by_cases hlt : 0 < m
    · have hcl : 1 * cs.size ≤ m * cs.size := Nat.mul_le_mul_right _ hlt
      have hc1 : cs.size ≤ 1000000000000 := by omega
      have ho1 : os.size + cs.size ≤ 1000000000000 := by omega
      clear hfit hcl
      rcases Nat.mod_two_eq_zero_or_one m with h2 | h2
      · have HN := Lib.hid (times_even _ _ _ _ H.out h2)
        rw [← ba_append] at HN
        have h2b : (((m : Int) % 2) == 1) = false := by simp; omega
        clear h2
        go_wp2
        go_round
        case rel => exact ⟨m / 2, cs ++ cs, os, by omega, rfl, by go_num, rfl, HN, by rw [ByteArray.size_append]; omega, hos⟩
        case measure => simp [intOf]; omega
      · have HN := Lib.hid (times_odd _ _ _ _ H.out h2)
        rw [← ba_append, ← ba_append] at HN
        have h2b : (((m : Int) % 2) == 1) = true := by simp; omega
        clear h2
        go_wp2
        go_round
        case rel => exact ⟨m / 2, cs ++ cs, os ++ cs, by omega, rfl, by go_num, rfl, HN, by rw [ByteArray.size_append]; omega, by rw [ByteArray.size_append]; omega⟩
        case measure => simp [intOf]; omega
    · obtain rfl : m = 0 := by omega
      have HN : RowKit.Hid (os.data.toList = t) := Lib.hid (by have := H.out; simpa [timesL] using this)
      go_wp2
      go_ret
      exact ⟨⟨os, rfl, HN.out⟩, rfl⟩

theorem ret_int {k : IntKind} {a b : Int} (h : a = b) : Ending.returned (.int k a) = .returned (.int k b) := by rw [h]
/-- n modulo m from 0 on -/
def pickI (n m : Int) : Int := n % m
set_option maxHeartbeats 400000 in
theorem pick_any (n m : Int) (w : World) (hm : 1 ≤ m) (hm2 : m ≤ 1000000000) (_h1 : -9223372036854775808 ≤ n) (_h2 : n ≤ 9223372036854775807) :
    Calls Tryd.prog 23 #[.int .i64 n, .int .i64 m] w fun e w' => e = .returned (.int .i64 (pickI n m)) ∧ w = w' := by
  have hb1 : n.tmod m < m := Int.tmod_lt_of_pos n (by omega)
  have hb2 : -m < n.tmod m := Int.lt_tmod_of_pos n (by omega)
  have hd : n % m = (n.tmod m) % m := by
    conv => lhs; rw [← Int.mul_tdiv_add_tmod n m]
    rw [Int.mul_add_emod_self_left]
  have hD : RowKit.Hid (pickI n m = (n.tmod m) % m) := Lib.hid hd
  clear hd
  go_enter Tryd.func23, Tryd.ntmps23
  go_wp2
  · go_ret
    have hr : n.tmod m < 0 := by assumption
    refine ⟨ret_int ?_, rfl⟩
    rw [hD.out, ← Int.add_emod_right, Int.emod_eq_of_lt (by omega) (by omega)]
  · go_ret
    have hr : 0 ≤ n.tmod m := by assumption
    refine ⟨ret_int ?_, rfl⟩
    rw [hD.out, Int.emod_eq_of_lt (by omega) (by omega)]
theorem pick_range (n m : Int) (hm : 1 ≤ m) : 0 ≤ pickI n m ∧ pickI n m < m := ⟨Int.emod_nonneg _ (by omega), Int.emod_lt_of_pos _ (by omega)⟩
end Go.Proofs.YtibnipmkjbojdaaDoor
