/-
  The walks of the reference's table of strings: Find, Len, Text, Uses. Conditions: the blocks are the table's own.
-/
import Derived.Test.YtobelhfhciafcaaInH
namespace Go.Proofs.Ytobelhfhciafcaa
open Go.RowKit

def strs (st : List (ByteArray × Nat)) : List Value := st.map (fun p => .string p.1)
def nums (st : List (ByteArray × Nat)) : List Value := st.map (fun p => .int .i64 (p.2 : Int))
theorem strs_at {st : List (ByteArray × Nat)} {n u : Nat} {s : ByteArray} (h : st[n]? = some (s, u)) : (strs st)[n]? = some (.string s) := by simp [strs, h]
theorem nums_at {st : List (ByteArray × Nat)} {n u : Nat} {s : ByteArray} (h : st[n]? = some (s, u)) : (nums st)[n]? = some (.int .i64 (u : Int)) := by simp [nums, h]
/-- a string is there exactly if it is used -/
def WF (st : List (ByteArray × Nat)) : Prop := ∀ p ∈ st, 0 < p.2 ↔ 1 ≤ p.1.size

structure RRaw (w : World) (o : Nat) (tv mv : Value) (st : List (ByteArray × Nat)) : Prop where
  blk : w.heap[o]? = some (.cells #[tv, mv] 59 (0, 0))
  rs : w.ownsRow 0 9 1 tv st.length (strs st)
  rt : w.ownsRow 0 3 1 mv st.length (nums st)
  st : o ∉ tv.ownBlock.toList
  sm : o ∉ mv.ownBlock.toList
  sd : ∀ g ∈ tv.ownBlock.toList, g ∉ mv.ownBlock.toList
theorem blk2 {w : World} {t e : Nat} {c0 c1 : Value} (h : w.heap[t]? = some (.cells #[c0, c1] e (0, 0))) : w.cell? ⟨t, 0, none⟩ = some c0 ∧ w.cell? ⟨t, 1, none⟩ = some c1 ∧ t < w.heap.size ∧ w.frozen? ⟨t, 0, none⟩ = false ∧ w.frozen? ⟨t, 1, none⟩ = false := by
  refine ⟨?_, ?_, lt_of_at h, blk_frozen h 0, blk_frozen h 1⟩ <;> simp [World.cell?, h]
theorem RRaw.fr {w w' : World} {o : Nat} {tv mv : Value} {st : List (ByteArray × Nat)} (R : RRaw w o tv mv st) {F : List Nat} (h : Fr F w w') (hn : ∀ b ∈ o :: (tv.ownBlock.toList ++ mv.ownBlock.toList), b ∉ F) : RRaw w' o tv mv st :=
  ⟨h.at (hn o (by simp)) R.blk, h.owns R.rs (fun k hk => hn k (by simp [hk])), h.owns R.rt (fun k hk => hn k (by simp [hk])), R.st, R.sm, R.sd⟩

theorem ba_bne {s : ByteArray} (h : 1 ≤ s.size) : s.toList.isEmpty = false := by
  rw [ByteArray.toList_eq]
  have : s.data.toList.length = s.size := Array.length_toList
  cases hx : s.data.toList with
  | nil => rw [hx] at this; simp at this; omega
  | cons a r => rfl
theorem ba_emp {s : ByteArray} (h : ¬ 1 ≤ s.size) : s = ByteArray.empty := by
  apply ByteArray.ext
  exact Array.eq_empty_of_size_eq_zero (by have : s.data.size = s.size := rfl; omega)
theorem ba_eq {a b : ByteArray} : (a.toList == b.toList) = decide (a = b) := by
  rw [ByteArray.toList_eq, ByteArray.toList_eq, Bool.eq_iff_iff]
  simp
  exact ⟨fun e => ByteArray.ext e, fun e => by rw [e]⟩
theorem numAt_hit {st : List (ByteArray × Nat)} {n u : Nat} {s : ByteArray} (hw : ∀ j, j < n → ∀ v, st[j]? = some (s, v) → ¬ 0 < v) (h : st[n]? = some (s, u)) (hu : 0 < u) : numAt st s = some n := by
  unfold numAt
  rw [List.findIdx?_eq_some_iff_getElem]
  have hl := (List.getElem?_eq_some_iff.1 h).1
  refine ⟨hl, by rw [(List.getElem?_eq_some_iff.1 h).2]; simp [usedB, hu], fun j hj => ?_⟩
  have hjl : j < st.length := by omega
  simp only [usedB, Bool.not_eq_true, Bool.and_eq_false_iff, decide_eq_false_iff_not]
  by_cases e : st[j].1 = s
  · left; exact hw j hj st[j].2 (by rw [List.getElem?_eq_getElem hjl, ← e])
  · exact .inr e
theorem numAt_miss {st : List (ByteArray × Nat)} {s : ByteArray} (hw : ∀ j, j < st.length → ∀ v, st[j]? = some (s, v) → ¬ 0 < v) : numAt st s = none := by
  cases h : numAt st s with
  | none => rfl
  | some n =>
    obtain ⟨u, h1, h2⟩ := numAt_some h
    exact absurd h2 (hw n (List.getElem?_eq_some_iff.1 h1).1 u h1)

set_option maxHeartbeats 1000000 in
theorem rFind_any (o : Nat) (tv mv : Value) (st : List (ByteArray × Nat)) (s : ByteArray) (w : World) (R : RRaw w o tv mv st) (hwf : WF st) (hl : st.length ≤ 100000) (hs : s.size ≤ 9223372036854775807) :
    Calls Try.prog 16 #[.pointer (some ⟨o, 0, none⟩), .string s] w fun e w' => e = .returned (.tuple #[.int .i64 (findN st s), .bool (findB st s)]) ∧ w = w' := by
  obtain ⟨k0, k1, hol, _, _⟩ := blk2 R.blk
  obtain ⟨p, cap, rfl, hcap, hmax⟩ := row_any R.rs
  unfold maxLen at hmax
  have HR := Lib.hid R
  have HW := Lib.hid hwf
  clear R hwf
  by_cases h1 : 1 ≤ s.size
  · have hne := ba_bne h1
    go_enter Try.func16, Try.ntmps16
    go_wp2
    go_loop [6] (fun i => ∃ k : Nat, k ≤ st.length ∧ i = .int .i64 k ∧ RowKit.Hid (∀ j, j < k → ∀ v, st[j]? = some (s, v) → ¬ 0 < v)) (fun i => st.length - (intOf i).toNat)
    case atStart => exact ⟨0, Nat.zero_le _, rfl, Lib.hid (fun j hj => by omega)⟩
    case round =>
      obtain ⟨k, hk, rfl, H⟩ := hrel
      by_cases hlt : k < st.length
      · obtain ⟨g, cap', e, hg, hgl, _, _⟩ := row_value HR.out.rs (by omega)
        injection e with e1 _ e2
        subst e1
        have hat : st[k]? = some (st[k].1, st[k].2) := by rw [List.getElem?_eq_getElem hlt]
        have cc := row_cell HR.out.rs hg (strs_at hat)
        have hwk := HW.out st[k] (List.getElem_mem hlt)
        have hq : (0 : Int) ≤ k := by omega
        have hq2 : (k : Int) < st.length := by omega
        generalize hx : st[k].1 = x at *
        generalize hy : st[k].2 = u at *
        by_cases hsx : x = s
        · subst hsx
          have HN := Lib.hid (numAt_hit H.out hat (hwk.2 h1))
          have hb : (x.toList == x.toList) = true := by simp
          clear hat hwk hx hy hg hcap
          go_wp2
          go_ret2
          exact ⟨by simp [findN, findB, HN.out], rfl⟩
        · have HN : RowKit.Hid (∀ j, j < k + 1 → ∀ v, st[j]? = some (s, v) → ¬ 0 < v) := Lib.hid (fun j hj v hv => by
            by_cases e : j = k
            · subst e; rw [hat] at hv; cases hv; exact absurd rfl hsx
            · exact H.out j (by omega) v hv)
          have hb : (x.toList == s.toList) = false := by rw [ba_eq]; simpa using hsx
          clear hat hwk hx hy hg hsx hcap
          go_wp2
          go_round
          case rel => exact ⟨k + 1, by omega, by go_num, HN⟩
          case measure => simp [intOf]; omega
      · have HN := Lib.hid (numAt_miss (st := st) (s := s) (fun j hj => H.out j (by omega)))
        go_wp2
        go_ret2
        exact ⟨by simp [findN, findB, HN.out], rfl⟩
  · have he := ba_emp h1
    subst he
    have HN : RowKit.Hid (numAt st ByteArray.empty = none) := Lib.hid (numAt_miss (fun j hj v hv h0 => by
      have := (HW.out _ (List.mem_of_getElem? hv)).1 h0
      simp at this))
    clear h1 hs
    go_enter Try.func16, Try.ntmps16
    go_wp2
    go_loop [6] (fun i => ∃ k : Nat, k ≤ st.length ∧ i = .int .i64 k) (fun i => st.length - (intOf i).toNat)
    case atStart => exact ⟨0, Nat.zero_le _, rfl⟩
    case round =>
      obtain ⟨k, hk, rfl⟩ := hrel
      by_cases hlt : k < st.length
      · go_wp2
        go_round
        case rel => exact ⟨k + 1, by omega, by go_num⟩
        case measure => simp [intOf]; omega
      · go_wp2
        go_ret2
        exact ⟨by simp [findN, findB, HN.out], rfl⟩

theorem RRaw.text {w : World} {o k u len cap : Nat} {p : Option Addr} {mv : Value} {st : List (ByteArray × Nat)} {s : ByteArray} (R : RRaw w o (.slice p len cap) mv st) (h : st[k]? = some (s, u)) :
    ∃ g, p = some ⟨g, 0, none⟩ ∧ w.cell? ⟨g, k, none⟩ = some (.string s) ∧ w.frozen? ⟨g, k, none⟩ = false ∧ g ≠ o ∧ len = st.length := by
  have hl := (List.getElem?_eq_some_iff.1 h).1
  obtain ⟨g, cap', e, hg, _, _, _⟩ := row_value R.rs (by omega)
  injection e with e1 e2 _
  subst e1
  exact ⟨g, rfl, row_cell R.rs hg (strs_at h), row_frozen R.rs hg k, fun e => R.st (by simp [Value.ownBlock, e]), e2⟩
theorem RRaw.time {w : World} {o k u len cap : Nat} {p : Option Addr} {tv : Value} {st : List (ByteArray × Nat)} {s : ByteArray} (R : RRaw w o tv (.slice p len cap) st) (h : st[k]? = some (s, u)) :
    ∃ g, p = some ⟨g, 0, none⟩ ∧ w.cell? ⟨g, k, none⟩ = some (.int .i64 (u : Int)) ∧ w.frozen? ⟨g, k, none⟩ = false ∧ g ≠ o ∧ len = st.length := by
  have hl := (List.getElem?_eq_some_iff.1 h).1
  obtain ⟨g, cap', e, hg, _, _, _⟩ := row_value R.rt (by omega)
  injection e with e1 e2 _
  subst e1
  exact ⟨g, rfl, row_cell R.rt hg (nums_at h), row_frozen R.rt hg k, fun e => R.sm (by simp [Value.ownBlock, e]), e2⟩
theorem at_of {st : List (ByteArray × Nat)} {k : Nat} (h : k < st.length) : ∃ s u, st[k]? = some (s, u) := ⟨st[k].1, st[k].2, by rw [List.getElem?_eq_getElem h]⟩
theorem take_snoc' {st : List (ByteArray × Nat)} {k u : Nat} {s : ByteArray} (h : st[k]? = some (s, u)) : st.take (k + 1) = st.take k ++ [(s, u)] := by
  rw [List.take_add_one, h]; rfl
theorem usedN_snoc (l : List (ByteArray × Nat)) (p : ByteArray × Nat) : usedN (l ++ [p]) = usedN l + if usedB p then 1 else 0 := by simp [usedN, List.countP_append, List.countP_cons]

set_option maxHeartbeats 1000000 in
theorem rLen_any (o : Nat) (tv mv : Value) (st : List (ByteArray × Nat)) (w : World) (R : RRaw w o tv mv st) (hwf : WF st) (hl : st.length ≤ 100000) :
    Calls Try.prog 21 #[.pointer (some ⟨o, 0, none⟩)] w fun e w' => e = .returned (.int .i64 (usedN st)) ∧ w = w' := by
  obtain ⟨k0, k1, hol, _, _⟩ := blk2 R.blk
  obtain ⟨p, cap, rfl, hcap, hmax⟩ := row_any R.rs
  unfold maxLen at hmax
  have HR := Lib.hid R
  have HW := Lib.hid hwf
  clear R hwf
  go_enter Try.func21, Try.ntmps21
  go_wp2
  go_loop [3, 4] (fun a i => ∃ k m : Nat, k ≤ st.length ∧ m ≤ k ∧ i = .int .i64 k ∧ a = .int .i64 m ∧ RowKit.Hid (m = usedN (st.take k))) (fun _ i => st.length - (intOf i).toNat)
  case atStart => exact ⟨0, 0, Nat.zero_le _, Nat.le_refl _, rfl, rfl, Lib.hid rfl⟩
  case round =>
    obtain ⟨k, m, hk, hmk, rfl, rfl, H⟩ := hrel
    by_cases hlt : k < st.length
    · obtain ⟨x, u, hat⟩ := at_of hlt
      obtain ⟨g, rfl, cc, _, _, _⟩ := HR.out.text hat
      have hwk := HW.out _ (List.mem_of_getElem? hat)
      have hq : (0 : Int) ≤ k := by omega
      have hq2 : (k : Int) < st.length := by omega
      have HT : RowKit.Hid (usedN (st.take (k + 1)) = m + if usedB (x, u) then 1 else 0) := Lib.hid (by rw [take_snoc' hat, usedN_snoc, H.out])
      by_cases hx : 1 ≤ x.size
      · have hne := ba_bne hx
        have HN : RowKit.Hid (m + 1 = usedN (st.take (k + 1))) := Lib.hid (by rw [HT.out]; simp [usedB, hwk.2 hx])
        clear hat hwk hcap
        go_wp2
        go_round
        case rel => exact ⟨k + 1, m + 1, by omega, by omega, by go_num, by go_num, HN⟩
        case measure => simp [intOf]; omega
      · have he := ba_emp hx
        subst he
        have HN : RowKit.Hid (m = usedN (st.take (k + 1))) := Lib.hid (by rw [HT.out]; have h0 : ¬ 0 < u := fun h0 => absurd (hwk.1 h0) hx; simp [usedB, h0])
        have cc2 : w.cell? ⟨g, k, none⟩ = some (.string ⟨#[]⟩) := cc
        clear hat hwk hcap cc
        go_wp2
        go_round
        case rel => exact ⟨k + 1, m, by omega, by omega, by go_num, rfl, HN⟩
        case measure => simp [intOf]; omega
    · obtain rfl : k = st.length := by omega
      have HN : RowKit.Hid (usedN st = m) := Lib.hid (by rw [H.out, List.take_length])
      go_wp2
      go_ret
      exact ⟨by rw [HN.out]; rfl, rfl⟩

theorem has_cond {st : List (ByteArray × Nat)} (hwf : WF st) {m u : Nat} {s : ByteArray} (h : st[m]? = some (s, u)) : hasT st m = decide (1 ≤ s.size) := by
  have := hwf _ (List.mem_of_getElem? h)
  simp [hasT, h, usedB]
  exact this
set_option maxHeartbeats 1000000 in
theorem rhas_any (o : Nat) (tv mv : Value) (st : List (ByteArray × Nat)) (n : Int) (w : World) (R : RRaw w o tv mv st) (hwf : WF st) :
    Calls Try.prog 28 #[.pointer (some ⟨o, 0, none⟩), .int .i64 n] w fun e w' => e = .returned (.bool (hasT st n)) ∧ w = w' := by
  obtain ⟨k0, k1, hol, _, _⟩ := blk2 R.blk
  obtain ⟨p, cap, rfl, hcap, hmax⟩ := row_any R.rs
  unfold maxLen at hmax
  by_cases h0 : 0 ≤ n
  · obtain ⟨m, rfl⟩ : ∃ m : Nat, n = m := ⟨n.toNat, by omega⟩
    by_cases h1 : m < st.length
    · obtain ⟨x, u, hat⟩ := at_of h1
      obtain ⟨g, rfl, cc, _, _, _⟩ := R.text hat
      have hc := has_cond hwf hat
      by_cases hx : 1 ≤ x.size
      · have hne := ba_bne hx
        have HN : RowKit.Hid (hasT st m = true) := Lib.hid (by rw [hc]; simpa using hx)
        clear hat hc R hwf
        go_enter Try.func28, Try.ntmps28
        go_wp2
        go_ret
        exact ⟨by rw [HN.out]; rfl, rfl⟩
      · have HN : RowKit.Hid (hasT st m = false) := Lib.hid (by rw [hc]; simpa using hx)
        have he := ba_emp hx
        subst he
        have cc2 : w.cell? ⟨g, m, none⟩ = some (.string ⟨#[]⟩) := cc
        clear hat hc R hwf cc
        go_enter Try.func28, Try.ntmps28
        go_wp2
        go_ret
        exact ⟨by rw [HN.out]; rfl, rfl⟩
    · have HN : RowKit.Hid (hasT st m = false) := Lib.hid (by simp [hasT, show st.length ≤ m by omega])
      clear R hwf
      go_enter Try.func28, Try.ntmps28
      go_wp2
      go_ret
      exact ⟨by rw [HN.out]; rfl, rfl⟩
  · have HN : RowKit.Hid (hasT st n = false) := Lib.hid (by simp [hasT]; intro h; omega)
    clear R hwf
    go_enter Try.func28, Try.ntmps28
    go_wp2
    go_ret
    exact ⟨by rw [HN.out]; rfl, rfl⟩
end Go.Proofs.Ytobelhfhciafcaa
