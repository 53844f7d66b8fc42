/-
  The walk of the statements' own helper Same, at two lists of strings. Conditions: as each says.
-/
import Derived.Test.YtlbollmmomheoaaSpB
import Derived.Deep.QuietTactic
import Derived.BigQuiet
namespace Go.Proofs.Ytlbollmmomheoaa
open Go.RowKit

/-- the slice value's first n cells are xs, one cell each -/
def ListAt (w : World) (A : Option Addr) (n : Nat) (xs : List Value) : Prop :=
  xs.length = n ∧ (n = 0 ∨ ∃ b o, A = some ⟨b, o, none⟩ ∧ b < w.heap.size ∧ ∀ j u, xs[j]? = some u → w.cell? ⟨b, o + j, none⟩ = some u)

theorem bel_drewN (w : World) (n : Nat) : Bel w (w.drewN n) := by
  induction n with
  | zero => exact Below.refl _ _
  | succ n ih => exact Below.drew ih

def sameS (xs ys : List ByteArray) : Bool := decide (xs = ys)
theorem sameS_len (xs ys : List ByteArray) (h : xs.length ≠ ys.length) : sameS xs ys = false := decide_eq_false (fun e => h (by rw [e]))
theorem sameS_at (xs ys : List ByteArray) (k : Nat) (h1 : k < xs.length) (h2 : k < ys.length) (h : xs[k] ≠ ys[k]) : sameS xs ys = false :=
  decide_eq_false (fun e => by subst e; exact h rfl)
theorem sameS_all (xs ys : List ByteArray) (hl : xs.length = ys.length) (h : ∀ j, j < xs.length → xs[j]? = ys[j]?) : sameS xs ys = true :=
  decide_eq_true (by
    apply List.ext_getElem? ; intro j
    by_cases hj : j < xs.length
    · exact h j hj
    · rw [List.getElem?_eq_none (by omega), List.getElem?_eq_none (by omega)])

set_option maxHeartbeats 1000000 in
theorem same_any (A B : Option Addr) (xs ys : List ByteArray) (ca cb : Nat) (w : World) (hx : xs.length ≤ maxLen) (_hy : ys.length ≤ maxLen)
    (ha : ListAt w A xs.length (xs.map .string)) (hb : ListAt w B ys.length (ys.map .string)) :
    Calls Try.prog 30 #[.slice A xs.length ca, .slice B ys.length cb] w fun e w' => e = .returned (.bool (sameS xs ys)) ∧ ∃ n, w' = w.drewN n := by
  unfold maxLen at hx
  by_cases hl : xs.length = ys.length
  · have HL := Lib.hid hl
    have hl2 : ((xs.length : Int) != (ys.length : Int)) = false := by rw [hl]; simp
    have hl3 : xs.length ≤ ys.length := by omega
    have hl4 : ys.length ≤ xs.length := by omega
    clear hl
    go_enter Try.func30, Try.ntmps30
    go_wp2
    clear hl2
    go_loopw [5] (fun i wr => ∃ k : Nat, k ≤ xs.length ∧ i = .int .i64 k ∧ RowKit.Hid (∀ j, j < k → xs[j]? = ys[j]?) ∧ ∃ n, wr = w.drewN n) (fun i _ => xs.length - (intOf i).toNat)
    case atStart => exact ⟨0, Nat.zero_le _, rfl, Lib.hid (by simp), 0, rfl⟩
    case round =>
      obtain ⟨k, hk, rfl, H, n, rfl⟩ := hrel
      by_cases hlt : k < xs.length
      · have hlt2 : k < ys.length := by omega
        obtain ⟨_, hA⟩ := ha
        obtain ⟨_, hB⟩ := hb
        rcases hA with h0 | ⟨b1, o1, rfl, hb1, hc1⟩
        · omega
        rcases hB with h0 | ⟨b2, o2, rfl, hb2, hc2⟩
        · omega
        have c1 := hc1 k (.string xs[k]) (by simp [hlt])
        have c2 := hc2 k (.string ys[k]) (by simp [hlt2])
        clear hc1 hc2
        have hq1 : (0 : Int) ≤ k := by omega
        have hq2 : (k : Int) < xs.length := by omega
        have hq3 : (k : Int) < ys.length := by omega
        by_cases h1 : xs[k] = ys[k]
        · have HN : RowKit.Hid (∀ j, j < k + 1 → xs[j]? = ys[j]?) := Lib.hid (fun j hj => by
            by_cases e : j = k
            · subst e; rw [List.getElem?_eq_getElem hlt, List.getElem?_eq_getElem hlt2, h1]
            · exact H.out j (by omega))
          have h1b : (xs[k].toList == ys[k].toList) = true := by rw [h1]; simp
          clear h1
          go_wp2
          go_quiet (fail)
          go_wp2
          go_roundw
          case rel => exact ⟨k + 1, by omega, by go_num, HN, n + nq, by first | rfl | rw [World.drewN_drewN]⟩
          case measure => simp [intOf]; omega
        · have HN := Lib.hid (sameS_at xs ys k hlt hlt2 h1)
          have h1b : (xs[k].toList == ys[k].toList) = false := by simp; exact fun e => h1 (by rw [ByteArray.toList_eq, ByteArray.toList_eq] at e; exact ByteArray.ext (Array.ext' e))
          clear h1
          go_wp2
          go_quiet (fail)
          go_wp2
          go_ret
          exact ⟨by rw [HN.out]; rfl, n + nq, by first | rfl | rw [World.drewN_drewN]⟩
      · have HN := Lib.hid (sameS_all xs ys HL.out (fun j hj => H.out j (by omega)))
        go_wp2
        go_ret
        exact ⟨by rw [HN.out]; rfl, n, rfl⟩
  · have HN := Lib.hid (sameS_len xs ys hl)
    have hl2 : ((xs.length : Int) != (ys.length : Int)) = true := by simp; omega
    clear hl
    go_enter Try.func30, Try.ntmps30
    go_wp2
    go_ret
    exact ⟨by rw [HN.out]; rfl, 0, rfl⟩

end Go.Proofs.Ytlbollmmomheoaa
