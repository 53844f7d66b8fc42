/-
  A table of strings with numbers, in plain mathematics: a list of strings with their use counts, the free numbers as a heap. No condition.
-/
import Derived.Test.YtobelhfhciafcaaOwA
namespace Go.Proofs.Ytobelhfhciafcaa
open Go.RowKit

/-! ### heaps of whole numbers -/
def gI (xs : List Int) (i : Nat) : Int := xs.getD i 0
def swapL (xs : List Int) (i j : Nat) : List Int := (xs.set i (gI xs j)).set j (gI xs i)
theorem swapL_len (xs : List Int) (i j : Nat) : (swapL xs i j).length = xs.length := by simp [swapL]
theorem gI_at {xs : List Int} {i : Nat} (h : i < xs.length) : gI xs i = xs[i] := by simp [gI, h]
theorem swapL_at {xs : List Int} {i j : Nat} (hi : i < xs.length) (hj : j < xs.length) (k : Nat) : gI (swapL xs i j) k = if k = j then gI xs i else if k = i then gI xs j else gI xs k := by
  simp only [gI, swapL, List.getD_eq_getElem?_getD, List.getElem?_set, List.length_set]
  by_cases h1 : k = j
  · subst h1; simp [hj]
  · rw [if_neg (Ne.symm h1), if_neg h1]
    by_cases h2 : k = i
    · subst h2; simp [hi]
    · rw [if_neg (Ne.symm h2), if_neg h2]
theorem swapL_perm {xs : List Int} {i j : Nat} (hi : i < xs.length) (hj : j < xs.length) : (swapL xs i j).Perm xs := by
  have := List.set_set_perm hi hj
  simpa [swapL, gI, hi, hj] using this

def HeapN (xs : List Int) (n : Nat) : Prop := ∀ k, 0 < k → k < n → gI xs ((k - 1) / 2) ≤ gI xs k
def UpInv (xs : List Int) (n j : Nat) : Prop :=
  (∀ k, 0 < k → k < n → k ≠ j → gI xs ((k - 1) / 2) ≤ gI xs k) ∧ (0 < j → ∀ c, 0 < c → c < n → (c - 1) / 2 = j → gI xs ((j - 1) / 2) ≤ gI xs c)
def DownInv (xs : List Int) (n i : Nat) : Prop :=
  (∀ k, 0 < k → k < n → (k - 1) / 2 ≠ i → gI xs ((k - 1) / 2) ≤ gI xs k) ∧ (0 < i → ∀ c, 0 < c → c < n → (c - 1) / 2 = i → gI xs ((i - 1) / 2) ≤ gI xs c)

theorem up_start {xs : List Int} {n : Nat} (h : HeapN xs (n - 1)) : UpInv xs n (n - 1) :=
  ⟨fun k h0 hk hne => h k h0 (by omega), fun _ c _ hc he => by omega⟩
theorem up_stop0 {xs : List Int} {n : Nat} (h : UpInv xs n 0) : HeapN xs n := fun k h0 hk => h.1 k h0 hk (by omega)
theorem up_stop {xs : List Int} {n j : Nat} (h : UpInv xs n j) (hle : gI xs ((j - 1) / 2) ≤ gI xs j) : HeapN xs n := fun k h0 hk => by
  by_cases e : k = j
  · subst e; exact hle
  · exact h.1 k h0 hk e
theorem up_step {xs : List Int} {n j : Nat} (hn : n ≤ xs.length) (h : UpInv xs n j) (h0 : 0 < j) (hj : j < n) (hlt : gI xs j < gI xs ((j - 1) / 2)) : UpInv (swapL xs ((j - 1) / 2) j) n ((j - 1) / 2) := by
  have hp : (j - 1) / 2 < j := by omega
  have hi' : (j - 1) / 2 < xs.length := by omega
  have hj' : j < xs.length := by omega
  generalize hi : (j - 1) / 2 = i at *
  constructor
  · intro k hk0 hk hne
    rw [swapL_at hi' hj', swapL_at hi' hj']
    by_cases e1 : k = j
    · subst e1
      rw [hi, if_neg (by omega), if_pos rfl, if_pos rfl]
      omega
    · rw [if_neg e1, if_neg hne]
      by_cases e2 : (k - 1) / 2 = j
      · rw [if_pos e2]
        have := h.2 h0 k hk0 hk e2
        rw [hi] at this
        exact this
      · rw [if_neg e2]
        by_cases e3 : (k - 1) / 2 = i
        · rw [if_pos e3]
          have := h.1 k hk0 hk e1
          rw [e3] at this
          omega
        · rw [if_neg e3]
          exact h.1 k hk0 hk e1
  · intro hi0 c hc0 hc he
    rw [swapL_at hi' hj', swapL_at hi' hj', if_neg (by omega), if_neg (by omega)]
    have hii := h.1 i hi0 (by omega) (by omega)
    by_cases e1 : c = j
    · rw [if_pos e1]; exact hii
    · rw [if_neg e1, if_neg (by omega)]
      have := h.1 c hc0 hc e1
      rw [he] at this
      omega
theorem down_start {xs : List Int} {n : Nat} (h : ∀ k, 0 < k → k < n → (k - 1) / 2 ≠ 0 → gI xs ((k - 1) / 2) ≤ gI xs k) : DownInv xs n 0 := ⟨h, fun h0 => by omega⟩
theorem down_stop {xs : List Int} {n i : Nat} (h : DownInv xs n i) (hc : ∀ c, 0 < c → c < n → (c - 1) / 2 = i → gI xs i ≤ gI xs c) : HeapN xs n := fun k h0 hk => by
  by_cases e : (k - 1) / 2 = i
  · rw [e]; exact hc k h0 hk e
  · exact h.1 k h0 hk e
theorem down_step {xs : List Int} {n i j : Nat} (hn : n ≤ xs.length) (h : DownInv xs n i) (h0 : 0 < j) (hj : j < n) (hp : (j - 1) / 2 = i) (hlt : gI xs j < gI xs i) (hs : ∀ c, 0 < c → c < n → (c - 1) / 2 = i → gI xs j ≤ gI xs c) : DownInv (swapL xs i j) n j := by
  have hi' : i < xs.length := by omega
  have hj' : j < xs.length := by omega
  constructor
  · intro k hk0 hk hne
    rw [swapL_at hi' hj', swapL_at hi' hj', if_neg hne]
    by_cases e1 : k = j
    · subst e1
      rw [hp, if_pos rfl, if_pos rfl]
      omega
    · rw [if_neg e1]
      by_cases e2 : k = i
      · subst e2
        rw [if_pos rfl, if_neg (by omega)]
        have := h.2 hk0 j h0 hj hp
        omega
      · rw [if_neg e2]
        by_cases e3 : (k - 1) / 2 = i
        · rw [if_pos e3]; exact hs k hk0 hk e3
        · rw [if_neg e3]; exact h.1 k hk0 hk e3
  · intro _ c hc0 hc he
    rw [swapL_at hi' hj', swapL_at hi' hj', hp, if_neg (by omega), if_pos rfl, if_neg (by omega), if_neg (by omega)]
    have := h.1 c hc0 hc (by omega)
    rw [he] at this
    exact this
theorem heap_min {xs : List Int} {n : Nat} (h : HeapN xs n) : ∀ k, k < n → gI xs 0 ≤ gI xs k := by
  intro k
  induction k using Nat.strongRecOn with
  | _ k ih =>
    intro hk
    by_cases e : k = 0
    · subst e; exact Int.le_refl _
    · have := h k (by omega) hk
      have := ih ((k - 1) / 2) (by omega) (by omega)
      omega
theorem heap_take {xs : List Int} {n : Nat} (h : HeapN xs n) : HeapN (xs.take n) n := fun k h0 hk => by
  have g : ∀ i, i < n → gI (xs.take n) i = gI xs i := fun i hi => by simp [gI, List.getD_eq_getElem?_getD, hi]
  rw [g _ (by omega), g _ hk]
  exact h k h0 hk
theorem heap_snoc {xs : List Int} {x : Int} (h : HeapN xs xs.length) : HeapN (xs ++ [x]) xs.length := fun k h0 hk => by
  have g : ∀ i, i < xs.length → gI (xs ++ [x]) i = gI xs i := fun i hi => by simp [gI, List.getD_eq_getElem?_getD, List.getElem?_append_left hi]
  rw [g _ (by omega), g _ hk]
  exact h k h0 hk

/-! ### the table -/
def usedB (p : ByteArray × Nat) : Bool := decide (0 < p.2)
def usedN (st : List (ByteArray × Nat)) : Nat := st.countP usedB
def numAt (st : List (ByteArray × Nat)) (s : ByteArray) : Option Nat := st.findIdx? (fun p => usedB p && decide (p.1 = s))
def freeAt (st : List (ByteArray × Nat)) : Nat := st.findIdx (fun p => !usedB p)

structure TGood (st : List (ByteArray × Nat)) (f : ByteArray → Option Value) (c : Nat) (frees : List Int) : Prop where
  look : ∀ s v, f s = some v ↔ ∃ n u : Nat, v = .int .i64 (n : Int) ∧ st[n]? = some (s, u) ∧ 0 < u
  emp : ∀ (n : Nat) s, st[n]? = some (s, 0) → s = ByteArray.empty
  siz : ∀ (n : Nat) s u, st[n]? = some (s, u) → 0 < u → 1 ≤ s.size ∧ s.size ≤ 255
  len : st.length ≤ 65536
  count : c = usedN st
  nodup : frees.Nodup
  free : ∀ x : Int, x ∈ frees ↔ ∃ n : Nat, x = n ∧ ∃ s, st[n]? = some (s, 0)
  heap : HeapN frees frees.length

variable {st : List (ByteArray × Nat)} {f : ByteArray → Option Value} {c : Nat} {frees : List Int}

theorem TGood.empty : TGood [] (fun _ => none) 0 [] := ⟨by simp, by simp, by simp, by simp, rfl, by simp, by simp, fun k _ hk => by simp at hk⟩
theorem TGood.numEq (h : TGood st f c frees) {n n' u u' : Nat} {s : ByteArray} (h1 : st[n]? = some (s, u)) (h2 : st[n']? = some (s, u')) (hu : 0 < u) (hu' : 0 < u') : n = n' := by
  have e1 := (h.look s (.int .i64 (n : Int))).2 ⟨n, u, rfl, h1, hu⟩
  have e2 := (h.look s (.int .i64 (n' : Int))).2 ⟨n', u', rfl, h2, hu'⟩
  rw [e1] at e2
  injection e2 with e2
  injection e2 with _ e2
  omega
theorem numAt_some {n : Nat} {s : ByteArray} (h : numAt st s = some n) : ∃ u, st[n]? = some (s, u) ∧ 0 < u := by
  unfold numAt at h
  obtain ⟨hl, hp, _⟩ := List.findIdx?_eq_some_iff_getElem.1 h
  simp [usedB] at hp
  exact ⟨st[n].2, by rw [List.getElem?_eq_getElem hl]; rw [← hp.2], hp.1⟩
theorem numAt_none {s : ByteArray} (h : numAt st s = none) : ∀ (n u : Nat), st[n]? = some (s, u) → ¬ 0 < u := by
  intro n u hn hu
  unfold numAt at h
  have := List.findIdx?_eq_none_iff.1 h (s, u) (List.mem_of_getElem? hn)
  simp [usedB] at this
  omega
theorem TGood.num (h : TGood st f c frees) (s : ByteArray) : f s = (numAt st s).map (fun n => .int .i64 (n : Int)) := by
  cases hn : numAt st s with
  | none =>
    cases hf : f s with
    | none => rfl
    | some v =>
      obtain ⟨n, u, _, h1, h2⟩ := (h.look s v).1 hf
      exact absurd h2 (numAt_none hn n u h1)
  | some n =>
    obtain ⟨u, h1, h2⟩ := numAt_some hn
    exact (h.look s _).2 ⟨n, u, rfl, h1, h2⟩
theorem TGood.numAt_of (h : TGood st f c frees) {n u : Nat} {s : ByteArray} (h1 : st[n]? = some (s, u)) (hu : 0 < u) : numAt st s = some n := by
  cases hn : numAt st s with
  | none => exact absurd hu (numAt_none hn n u h1)
  | some m =>
    obtain ⟨u', h2, h3⟩ := numAt_some hn
    rw [h.numEq h1 h2 hu h3]
theorem set_at {n m : Nat} {e : ByteArray × Nat} (hn : n < st.length) : (st.set n e)[m]? = if n = m then some e else st[m]? := by
  rw [List.getElem?_set]
  by_cases h : n = m
  · subst h; simp [hn]
  · simp [h]
theorem usedN_set {n : Nat} {e : ByteArray × Nat} (hn : n < st.length) : usedN (st.set n e) + (if usedB st[n] then 1 else 0) = usedN st + (if usedB e then 1 else 0) := by
  unfold usedN
  rw [List.countP_set hn]
  have : (if usedB st[n] then 1 else 0) ≤ st.countP usedB := by
    split
    · exact List.countP_pos_iff.2 ⟨st[n], List.getElem_mem hn, by assumption⟩
    · exact Nat.zero_le _
  omega
/-- an entry whose count is turned, not to none -/
theorem TGood.count_to (h : TGood st f c frees) {n u v : Nat} {s : ByteArray} (h1 : st[n]? = some (s, u)) (hu : 0 < u) (hv : 0 < v) : TGood (st.set n (s, v)) f c frees := by
  have hn : n < st.length := (List.getElem?_eq_some_iff.1 h1).1
  have hg : st[n] = (s, u) := (List.getElem?_eq_some_iff.1 h1).2
  refine ⟨?_, ?_, ?_, by simp [h.len], ?_, h.nodup, ?_, h.heap⟩
  · intro s' x
    rw [h.look]
    constructor
    · rintro ⟨m, u', rfl, h2, h3⟩
      by_cases e : n = m
      · subst e
        rw [h1] at h2; cases h2
        exact ⟨n, v, rfl, by rw [set_at hn, if_pos rfl], hv⟩
      · exact ⟨m, u', rfl, by rw [set_at hn, if_neg e]; exact h2, h3⟩
    · rintro ⟨m, u', rfl, h2, h3⟩
      rw [set_at hn] at h2
      by_cases e : n = m
      · subst e
        rw [if_pos rfl] at h2; cases h2
        exact ⟨n, u, rfl, h1, hu⟩
      · rw [if_neg e] at h2
        exact ⟨m, u', rfl, h2, h3⟩
  · intro m s' h2
    rw [set_at hn] at h2
    split at h2
    · cases h2; omega
    · exact h.emp m s' h2
  · intro m s' u' h2 h3
    rw [set_at hn] at h2
    split at h2
    · cases h2; exact h.siz n s u h1 hu
    · exact h.siz m s' u' h2 h3
  · have := usedN_set (e := (s, v)) hn
    rw [hg] at this
    simp [usedB, hu, hv] at this
    rw [this, h.count]
  · intro x
    rw [h.free]
    constructor
    · rintro ⟨m, rfl, s', h2⟩
      refine ⟨m, rfl, s', ?_⟩
      rw [set_at hn, if_neg (by rintro rfl; rw [h1] at h2; cases h2; omega)]
      exact h2
    · rintro ⟨m, rfl, s', h2⟩
      rw [set_at hn] at h2
      split at h2
      · cases h2; omega
      · exact ⟨m, rfl, s', h2⟩
theorem freeAt_none (h : TGood st f c []) : freeAt st = st.length := by
  unfold freeAt
  rw [List.findIdx_eq_length]
  intro p hp
  obtain ⟨n, hn⟩ := List.mem_iff_getElem?.1 hp
  simp only [usedB, Bool.not_eq_eq_eq_not, Bool.not_false, decide_eq_true_eq]
  apply Nat.pos_of_ne_zero
  intro e
  have := (h.free n).2 ⟨n, rfl, p.1, by rw [hn, ← e]⟩
  simp at this
theorem full_none (h : TGood st f c []) : usedN st = st.length := by
  unfold usedN
  rw [List.countP_eq_length]
  intro p hp
  obtain ⟨n, hn⟩ := List.mem_iff_getElem?.1 hp
  simp only [usedB, decide_eq_true_eq]
  apply Nat.pos_of_ne_zero
  intro e
  have := (h.free n).2 ⟨n, rfl, p.1, by rw [hn, ← e]⟩
  simp at this
/-- a new string at the end -/
theorem TGood.take_end (h : TGood st f c []) {s : ByteArray} (hs : f s = none) (h1 : 1 ≤ s.size) (h2 : s.size ≤ 255) (hlt : usedN st < 65536) : TGood (st ++ [(s, 1)]) (putM f s (.int .i64 (st.length : Int))) (c + 1) [] := by
  have hfull := full_none h
  have hat : ∀ m, (st ++ [(s, 1)])[m]? = if m = st.length then some (s, 1) else st[m]? := fun m => by
    rw [List.getElem?_append]
    split
    · rw [if_neg (by omega)]
    · by_cases e : m = st.length
      · subst e; simp
      · rw [if_neg e, List.getElem?_eq_none (by simp; omega), List.getElem?_eq_none (by omega)]
  refine ⟨?_, ?_, ?_, by simp; omega, ?_, by simp, ?_, fun k _ hk => by simp at hk⟩
  · intro s' x
    unfold putM
    by_cases e : s' = s
    · subst e
      rw [if_pos rfl]
      constructor
      · intro hx; cases hx
        exact ⟨st.length, 1, rfl, by rw [hat, if_pos rfl], by omega⟩
      · rintro ⟨n, u, rfl, hn, hu⟩
        rw [hat] at hn
        split at hn
        · rename_i e; rw [e]
        · have := (h.look s' (.int .i64 (n : Int))).2 ⟨n, u, rfl, hn, hu⟩
          rw [hs] at this; cases this
    · rw [if_neg e, h.look]
      constructor
      · rintro ⟨n, u, rfl, hn, hu⟩
        have hl : n < st.length := (List.getElem?_eq_some_iff.1 hn).1
        exact ⟨n, u, rfl, by rw [hat, if_neg (by omega)]; exact hn, hu⟩
      · rintro ⟨n, u, rfl, hn, hu⟩
        rw [hat] at hn
        split at hn
        · cases hn; exact absurd rfl e
        · exact ⟨n, u, rfl, hn, hu⟩
  · intro n s' hn
    rw [hat] at hn
    split at hn
    · cases hn
    · exact h.emp n s' hn
  · intro n s' u hn hu
    rw [hat] at hn
    split at hn
    · cases hn; exact ⟨h1, h2⟩
    · exact h.siz n s' u hn hu
  · simp [usedN, usedB, h.count]
  · intro x
    constructor
    · intro hx; simp at hx
    · rintro ⟨n, rfl, s', hn⟩
      rw [hat] at hn
      split at hn
      · cases hn
      · exact (h.free n).2 ⟨n, rfl, s', hn⟩
/-- the least free number is the heap's top -/
theorem TGood.pop_num (h : TGood st f c frees) {x : Int} {zs : List Int} (hp : (zs ++ [x]).Perm frees) (hmin : ∀ y ∈ zs, x ≤ y) : ∃ n : Nat, x = n ∧ n < st.length ∧ (∃ s, st[n]? = some (s, 0)) ∧ freeAt st = n := by
  obtain ⟨n, rfl, s, hn⟩ := (h.free x).1 (hp.mem_iff.1 (by simp))
  have hl : n < st.length := (List.getElem?_eq_some_iff.1 hn).1
  refine ⟨n, rfl, hl, ⟨s, hn⟩, ?_⟩
  unfold freeAt
  rw [List.findIdx_eq hl]
  refine ⟨by rw [(List.getElem?_eq_some_iff.1 hn).2]; simp [usedB], ?_⟩
  intro m hm
  simp only [usedB, Bool.not_eq_eq_eq_not, Bool.not_false, decide_eq_true_eq]
  apply Nat.pos_of_ne_zero
  intro e
  have hml : m < st.length := by omega
  have : ((m : Nat) : Int) ∈ frees := (h.free m).2 ⟨m, rfl, st[m].1, by rw [List.getElem?_eq_getElem hml, ← e]⟩
  rcases List.mem_append.1 (hp.mem_iff.2 this) with h3 | h3
  · have := hmin _ h3; omega
  · simp at h3; omega
/-- a new string at the least free number -/
theorem TGood.take_free (h : TGood st f c frees) {n : Nat} {s0 s : ByteArray} {zs : List Int} (hn : st[n]? = some (s0, 0)) (hp : (zs ++ [(n : Int)]).Perm frees) (hh : HeapN zs zs.length) (hs : f s = none) (h1 : 1 ≤ s.size) (h2 : s.size ≤ 255) :
    TGood (st.set n (s, 1)) (putM f s (.int .i64 (n : Int))) (c + 1) zs := by
  have hl : n < st.length := (List.getElem?_eq_some_iff.1 hn).1
  have hg : st[n] = (s0, 0) := (List.getElem?_eq_some_iff.1 hn).2
  have hnd := hp.nodup_iff.2 h.nodup
  obtain ⟨hnd1, _, hnd2⟩ := List.nodup_append.1 hnd
  refine ⟨?_, ?_, ?_, by simp [h.len], ?_, hnd1, ?_, hh⟩
  · intro s' x
    unfold putM
    by_cases e : s' = s
    · subst e
      rw [if_pos rfl]
      constructor
      · intro hx; cases hx
        exact ⟨n, 1, rfl, by rw [set_at hl, if_pos rfl], by omega⟩
      · rintro ⟨m, u, rfl, hm, hu⟩
        rw [set_at hl] at hm
        split at hm
        · rename_i e; rw [e]
        · have := (h.look s' (.int .i64 (m : Int))).2 ⟨m, u, rfl, hm, hu⟩
          rw [hs] at this; cases this
    · rw [if_neg e, h.look]
      constructor
      · rintro ⟨m, u, rfl, hm, hu⟩
        exact ⟨m, u, rfl, by rw [set_at hl, if_neg (by rintro rfl; rw [hn] at hm; cases hm; omega)]; exact hm, hu⟩
      · rintro ⟨m, u, rfl, hm, hu⟩
        rw [set_at hl] at hm
        split at hm
        · cases hm; exact absurd rfl e
        · exact ⟨m, u, rfl, hm, hu⟩
  · intro m s' hm
    rw [set_at hl] at hm
    split at hm
    · cases hm
    · exact h.emp m s' hm
  · intro m s' u hm hu
    rw [set_at hl] at hm
    split at hm
    · cases hm; exact ⟨h1, h2⟩
    · exact h.siz m s' u hm hu
  · have := usedN_set (e := (s, 1)) hl
    rw [hg] at this
    simp [usedB] at this
    rw [this, h.count]
  · intro x
    constructor
    · intro hx
      obtain ⟨m, rfl, s', hm⟩ := (h.free x).1 (hp.mem_iff.1 (by simp [hx]))
      refine ⟨m, rfl, s', ?_⟩
      rw [set_at hl, if_neg (by rintro rfl; exact hnd2 _ hx _ (by simp) rfl)]
      exact hm
    · rintro ⟨m, rfl, s', hm⟩
      rw [set_at hl] at hm
      split at hm
      · cases hm
      · rename_i hne
        rcases List.mem_append.1 (hp.mem_iff.2 ((h.free m).2 ⟨m, rfl, s', hm⟩)) with h3 | h3
        · exact h3
        · simp at h3; omega
/-- a string without a use is taken out -/
theorem TGood.drop_out (h : TGood st f c frees) {n : Nat} {s : ByteArray} {ys : List Int} (hn : st[n]? = some (s, 1)) (hp : ys.Perm (frees ++ [(n : Int)])) (hh : HeapN ys ys.length) :
    TGood (st.set n (ByteArray.empty, 0)) (delM f s) (c - 1) ys := by
  have hl : n < st.length := (List.getElem?_eq_some_iff.1 hn).1
  have hg : st[n] = (s, 1) := (List.getElem?_eq_some_iff.1 hn).2
  refine ⟨?_, ?_, ?_, by simp [h.len], ?_, ?_, ?_, hh⟩
  · intro s' x
    unfold delM
    by_cases e : s' = s
    · subst e
      rw [if_pos rfl]
      constructor
      · intro hx; cases hx
      · rintro ⟨m, u, rfl, hm, hu⟩
        rw [set_at hl] at hm
        split at hm
        · cases hm; omega
        · rename_i hne
          exact absurd (h.numEq hn hm (by omega) hu) hne
    · rw [if_neg e, h.look]
      constructor
      · rintro ⟨m, u, rfl, hm, hu⟩
        exact ⟨m, u, rfl, by rw [set_at hl, if_neg (by rintro rfl; rw [hn] at hm; cases hm; exact e rfl)]; exact hm, hu⟩
      · rintro ⟨m, u, rfl, hm, hu⟩
        rw [set_at hl] at hm
        split at hm
        · cases hm; omega
        · exact ⟨m, u, rfl, hm, hu⟩
  · intro m s' hm
    rw [set_at hl] at hm
    split at hm
    · cases hm; rfl
    · exact h.emp m s' hm
  · intro m s' u hm hu
    rw [set_at hl] at hm
    split at hm
    · cases hm; omega
    · exact h.siz m s' u hm hu
  · have := usedN_set (e := (ByteArray.empty, 0)) hl
    rw [hg] at this
    simp [usedB] at this
    have := h.count
    omega
  · refine hp.nodup_iff.2 (List.nodup_append.2 ⟨h.nodup, by simp, ?_⟩)
    intro a ha b hb
    simp at hb
    subst hb
    rintro rfl
    obtain ⟨m, hm, s', h3⟩ := (h.free _).1 ha
    obtain rfl : m = n := by omega
    rw [hn] at h3; cases h3
  · intro x
    rw [hp.mem_iff, List.mem_append, h.free]
    constructor
    · rintro (⟨m, rfl, s', hm⟩ | hx)
      · exact ⟨m, rfl, s', by rw [set_at hl, if_neg (by rintro rfl; rw [hn] at hm; cases hm)]; exact hm⟩
      · simp at hx
        exact ⟨n, hx, ByteArray.empty, by rw [set_at hl, if_pos rfl]⟩
    · rintro ⟨m, rfl, s', hm⟩
      rw [set_at hl] at hm
      split at hm
      · rename_i e; subst e; right; simp
      · exact .inl ⟨m, rfl, s', hm⟩

/-! ### what is asked of the calls -/
def takeT (st : List (ByteArray × Nat)) (s : ByteArray) : List (ByteArray × Nat) × Nat × Int :=
  if s.size < 1 ∨ 255 < s.size then (st, 0, 2) else
  match numAt st s with
  | some n => (st.modify n (fun p => (p.1, p.2 + 1)), n, 0)
  | none => if 65536 ≤ usedN st then (st, 0, 16) else ((if freeAt st < st.length then st.set (freeAt st) (s, 1) else st ++ [(s, 1)]), freeAt st, 0)
def hasT (st : List (ByteArray × Nat)) (n : Int) : Bool := decide (0 ≤ n) && (match st[n.toNat]? with | some p => usedB p | none => false)
def dropT (st : List (ByteArray × Nat)) (n : Int) : List (ByteArray × Nat) × Int :=
  if hasT st n then (st.modify n.toNat (fun p => if p.2 = 1 then (ByteArray.empty, 0) else (p.1, p.2 - 1)), 0) else (st, 13)
def textT (st : List (ByteArray × Nat)) (n : Int) : ByteArray := if hasT st n then (st[n.toNat]?.getD (ByteArray.empty, 0)).1 else ByteArray.empty
def usesT (st : List (ByteArray × Nat)) (n : Int) : Nat := if hasT st n then (st[n.toNat]?.getD (ByteArray.empty, 0)).2 else 0
def eachT (st : List (ByteArray × Nat)) (k : Nat) : List (Nat × ByteArray) := match st with
  | [] => []
  | p :: r => if usedB p then (k, p.1) :: eachT r (k + 1) else eachT r (k + 1)
end Go.Proofs.Ytobelhfhciafcaa
