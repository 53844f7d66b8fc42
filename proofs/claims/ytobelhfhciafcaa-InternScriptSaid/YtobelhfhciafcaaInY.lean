/-
  The comparison of two lists of entries. Conditions: both lists are the law's own.
-/
import Derived.Test.YtobelhfhciafcaaInX
namespace Go.Proofs.Ytobelhfhciafcaa
open Go.RowKit

theorem ba_self (s : ByteArray) : (s == s) = true := by
  cases s with
  | mk d => show (d == d) = true; simp
theorem neq_entry (n : Int) (s : ByteArray) (w : World) : (binOp .neq 47 (.agg #[.int .i64 n, .string s]) (.agg #[.int .i64 n, .string s])).run Try.prog w = .ok (.bool false) w := by
  have hi : ∀ d : Nat, (Op.equalIn (d + 1) 3 (.int .i64 n) (.int .i64 n)).run Try.prog w = .ok true w := fun d => by
    simp [Op.equalIn, run_underlying Try.underlying3]
  have hs : ∀ d : Nat, (Op.equalIn (d + 1) 9 (.string s) (.string s)).run Try.prog w = .ok true w := fun d => by
    simp [Op.equalIn, run_underlying Try.underlying9, ba_self]
  have hst : Try.prog.stoodInHeld 47 = false := by kernel_rfl
  have p0 : ∀ (a b : Value), (part 3 #[a, b] 0).run Try.prog w = .ok a w := fun _ _ => by kernel_rfl
  have p1 : ∀ (a b : Value), (part 9 #[a, b] 1).run Try.prog w = .ok b w := fun _ _ => by kernel_rfl
  have h : ∀ d : Nat, (Op.equalIn (d + 1 + 1) 47 (.agg #[.int .i64 n, .string s]) (.agg #[.int .i64 n, .string s])).run Try.prog w = .ok true w := fun d => by
    rw [Op.equalIn]
    simp [run_underlying Try.underlying47, hst, p0, p1, hi, hs]
  simp only [binOp]
  simp [Op.equal, Op.maxDepth, h 9998]

set_option maxHeartbeats 1000000 in
theorem sameE_any (vx vy : Value) (l : List (Nat × ByteArray)) (w : World) (hx : w.ownsRow 0 47 2 vx l.length (entL l)) (hy : w.ownsRow 0 47 2 vy l.length (entL l)) (hl : l.length ≤ 100000) :
    Calls Try.prog 22 #[vx, vy] w fun e w' => e = .returned (.bool true) ∧ ∃ n, w' = w.drewN n := by
  obtain ⟨p1, cap1, rfl, hc1, hm1⟩ := row_any hx
  obtain ⟨p2, cap2, rfl, hc2, hm2⟩ := row_any hy
  unfold maxLen at hm1 hm2
  have HX := Lib.hid hx
  have HY := Lib.hid hy
  clear hx hy
  have hll : ((l.length : Int) != (l.length : Int)) = false := by simp
  go_enter Try.func22, Try.ntmps22
  go_wp2
  clear hll
  go_loopw [5] (fun i wr => ∃ k n : Nat, k ≤ l.length ∧ i = .int .i64 k ∧ wr = w.drewN n) (fun i _ => l.length - (intOf i).toNat)
  case atStart => exact ⟨0, 0, Nat.zero_le _, rfl, rfl⟩
  case round =>
    obtain ⟨k, n, hk, rfl, rfl⟩ := hrel
    by_cases hlt : k < l.length
    · obtain ⟨g1, cap1', e, hg1, hgl1, _, _⟩ := row_value HX.out (by omega)
      injection e with e1 e3 e2
      subst e1 e2
      clear e3
      obtain ⟨g2, cap2', e, hg2, hgl2, _, _⟩ := row_value HY.out (by omega)
      injection e with e1 e3 e2
      subst e1 e2
      clear e3
      obtain ⟨m, s, hms⟩ : ∃ m s, l[k]? = some (m, s) := ⟨l[k].1, l[k].2, by rw [List.getElem?_eq_getElem hlt]⟩
      have c1 := row_cell HX.out hg1 (entL_at hms).1
      have c2 := row_cell HX.out hg1 (entL_at hms).2
      have c3 := row_cell HY.out hg2 (entL_at hms).1
      have c4 := row_cell HY.out hg2 (entL_at hms).2
      have hne := neq_entry m s
      have hq1 : (0 : Int) ≤ k := by omega
      have hq2 : (k : Int) < l.length := by omega
      clear hms hg1 hg2
      go_wp2
      go_quiet (fail)
      go_wp2
      go_roundw
      case rel => exact ⟨k + 1, n + nq, by omega, by go_num, by first | rfl | rw [World.drewN_drewN]⟩
      case measure => simp [intOf]; omega
    · go_wp2
      go_ret
      exact ⟨rfl, n, rfl⟩

theorem ret_bool {a b : Bool} (h : a = b) : Ending.returned (.bool a) = .returned (.bool b) := by rw [h]
/-- a list of calls that came in -/
structure ActD where
  kind : Int
  text : ByteArray
  n : Int
def ActsAt (w : World) (A : Option Addr) (xs : List ActD) : Prop := ∀ j (h : j < xs.length), ∃ b o, A = some ⟨b, o, none⟩ ∧ b < w.heap.size ∧
  w.cell? ⟨b, o + j * 3, none⟩ = some (.int .i64 xs[j].kind) ∧ w.cell? ⟨b, o + j * 3 + 1, none⟩ = some (.string xs[j].text) ∧ w.cell? ⟨b, o + j * 3 + 2, none⟩ = some (.int .i64 xs[j].n)
def ActOk (a : ActD) : Prop := (-9223372036854775808 ≤ a.kind ∧ a.kind ≤ 9223372036854775807) ∧ a.text.size ≤ 9223372036854775807 ∧ (-9223372036854775808 ≤ a.n ∧ a.n ≤ 9223372036854775807)
def lightB (l : List ActD) : Bool := l.all (fun a => decide (a.text.size ≤ 300)) && decide (l.length ≤ 80)
theorem ActsAt.get {w : World} {A : Option Addr} {xs : List ActD} (h : ActsAt w A xs) (h0 : 0 < xs.length) : ∃ b o, A = some ⟨b, o, none⟩ ∧ b < w.heap.size ∧ ∀ j (h : j < xs.length),
    w.cell? ⟨b, o + j * 3, none⟩ = some (.int .i64 xs[j].kind) ∧ w.cell? ⟨b, o + j * 3 + 1, none⟩ = some (.string xs[j].text) ∧ w.cell? ⟨b, o + j * 3 + 2, none⟩ = some (.int .i64 xs[j].n) := by
  obtain ⟨b, o, rfl, hb, _⟩ := h 0 h0
  refine ⟨b, o, rfl, hb, fun j hj => ?_⟩
  obtain ⟨b', o', e, _, hc⟩ := h j hj
  injection e with e
  injection e with e1 e2
  subst e1 e2
  exact hc
theorem light_hit {l : List ActD} {k : Nat} (h : k < l.length) (h2 : 300 < l[k].text.size) : lightB l = false := by
  unfold lightB
  rw [Bool.and_eq_false_iff]
  left
  cases ha : l.all (fun a => decide (a.text.size ≤ 300)) with
  | false => rfl
  | true =>
    have := List.all_eq_true.1 ha l[k] (List.getElem_mem h)
    simp at this
    omega
theorem light_end {l : List ActD} (h : ∀ j (h : j < l.length), l[j].text.size ≤ 300) : lightB l = decide (l.length ≤ 80) := by
  unfold lightB
  rw [show l.all (fun a => decide (a.text.size ≤ 300)) = true from List.all_eq_true.2 (fun a ha => by
    obtain ⟨j, hj, rfl⟩ := List.mem_iff_getElem.1 ha
    simpa using h j hj)]
  simp

set_option maxHeartbeats 1000000 in
theorem light_any (A : Option Addr) (l : List ActD) (ca : Nat) (w : World) (h : ActsAt w A l) (hl : l.length ≤ 9223372036854775807) (hok : ∀ a ∈ l, ActOk a) :
    Calls Try.prog 5 #[.slice A l.length ca] w fun e w' => e = .returned (.bool (lightB l)) ∧ w = w' := by
  go_enter Try.func5, Try.ntmps5
  go_wp2
  go_loop [3] (fun i => ∃ k : Nat, k ≤ l.length ∧ i = .int .i64 k ∧ RowKit.Hid (∀ j (h : j < l.length), j < k → l[j].text.size ≤ 300)) (fun i => l.length - (intOf i).toNat)
  case atStart => exact ⟨0, Nat.zero_le _, rfl, Lib.hid (fun j _ hj => by omega)⟩
  case round =>
    obtain ⟨k, hk, rfl, H⟩ := hrel
    by_cases hlt : k < l.length
    · obtain ⟨b, o, rfl, hb, hc⟩ := h.get (by omega)
      obtain ⟨_, c1, _⟩ := hc k hlt
      have hsz := (hok _ (List.getElem_mem hlt)).2.1
      have hq1 : (0 : Int) ≤ k := by omega
      have hq2 : (k : Int) < l.length := by omega
      by_cases hs : 300 < l[k].text.size
      · have HN := Lib.hid (light_hit hlt hs)
        generalize l[k].text = x at *
        clear hc h hok
        go_wp2
        go_ret
        exact ⟨by rw [HN.out]; rfl, rfl⟩
      · have HN : RowKit.Hid (∀ j (h : j < l.length), j < k + 1 → l[j].text.size ≤ 300) := Lib.hid (fun j h hj => by
          by_cases e : j = k
          · subst e; omega
          · exact H.out j h (by omega))
        generalize l[k].text = x at *
        clear hc h hok
        go_wp2
        go_round
        case rel => exact ⟨k + 1, by omega, by go_num, HN⟩
        case measure => simp [intOf]; omega
    · by_cases h80 : l.length ≤ 80
      · have HN : RowKit.Hid (lightB l = true) := Lib.hid (by rw [light_end (l := l) (fun j hj => H.out j hj (by omega))]; simpa using h80)
        go_wp2
        go_ret
        exact ⟨by rw [HN.out]; exact ret_bool (decide_eq_true (by omega)), rfl⟩
      · have HN : RowKit.Hid (lightB l = false) := Lib.hid (by rw [light_end (l := l) (fun j hj => H.out j hj (by omega))]; simpa using h80)
        go_wp2
        go_ret
        exact ⟨by rw [HN.out]; exact ret_bool (decide_eq_false (by omega)), rfl⟩
end Go.Proofs.Ytobelhfhciafcaa
