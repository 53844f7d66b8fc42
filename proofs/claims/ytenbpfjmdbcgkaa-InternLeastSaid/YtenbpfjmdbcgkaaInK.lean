/-
  Sums over a table's entries, in plain mathematics. No condition.
-/
import Derived.Test.YtenbpfjmdbcgkaaInP
namespace Go.Proofs.Ytenbpfjmdbcgkaa
open Go.RowKit

theorem eachT_mem : ∀ {st : List (ByteArray × Nat)} {j n : Nat} {s : ByteArray}, (n, s) ∈ eachT st j ↔ ∃ m u, n = j + m ∧ st[m]? = some (s, u) ∧ 0 < u
  | [], j, n, s => by simp [eachT]
  | p :: r, j, n, s => by
    have ih := eachT_mem (st := r) (j := j + 1) (n := n) (s := s)
    unfold eachT
    constructor
    · intro h
      split at h
      · rename_i hp
        rcases List.mem_cons.1 h with e | h
        · cases e
          exact ⟨0, p.2, rfl, rfl, by simpa [usedB] using hp⟩
        · obtain ⟨m, u, rfl, h1, h2⟩ := ih.1 h
          exact ⟨m + 1, u, by omega, by simpa using h1, h2⟩
      · obtain ⟨m, u, rfl, h1, h2⟩ := ih.1 h
        exact ⟨m + 1, u, by omega, by simpa using h1, h2⟩
    · rintro ⟨m, u, rfl, h1, h2⟩
      cases m with
      | zero =>
        simp at h1
        subst h1
        rw [if_pos (by simpa [usedB] using h2)]
        simp
      | succ m =>
        have := ih.2 ⟨m, u, by omega, by simpa using h1, h2⟩
        split
        · exact List.mem_cons_of_mem _ this
        · exact this
theorem eachT_asc : ∀ (st : List (ByteArray × Nat)) (j : Nat), (eachT st j).Pairwise (fun p q => p.1 < q.1)
  | [], j => by simp [eachT]
  | p :: r, j => by
    have ih := eachT_asc r (j + 1)
    unfold eachT
    split
    · refine List.pairwise_cons.2 ⟨fun q hq => ?_, ih⟩
      obtain ⟨m, u, h, _⟩ := eachT_mem.1 (show (q.1, q.2) ∈ eachT r (j + 1) from hq)
      show j < q.1
      omega
    · exact ih
theorem eachT_get {st : List (ByteArray × Nat)} {i n : Nat} {s : ByteArray} (h : (eachT st 0)[i]? = some (n, s)) : ∃ u, st[n]? = some (s, u) ∧ 0 < u := by
  obtain ⟨m, u, h1, h2, h3⟩ := eachT_mem.1 (List.mem_of_getElem? h)
  obtain rfl : n = m := by omega
  exact ⟨u, h2, h3⟩
theorem eachT_lt {st : List (ByteArray × Nat)} {i n n' : Nat} {s s' : ByteArray} (h : (eachT st 0)[i]? = some (n, s)) (h' : (eachT st 0)[i + 1]? = some (n', s')) : n < n' := by
  obtain ⟨h1, h2⟩ := List.getElem?_eq_some_iff.1 h
  obtain ⟨h3, h4⟩ := List.getElem?_eq_some_iff.1 h'
  have := List.pairwise_iff_getElem.1 (eachT_asc st 0) i (i + 1) h1 h3 (by omega)
  rw [h2, h4] at this
  exact this
/-- the strings that are there -/
def txT (st : List (ByteArray × Nat)) : List ByteArray := (eachT st 0).map (·.2)
theorem txT_nodup {st : List (ByteArray × Nat)} (hd : Dist st) : (txT st).Nodup := by
  unfold txT
  rw [List.Nodup, List.pairwise_map, List.pairwise_iff_getElem]
  intro i j hi hj hij he
  have h := List.pairwise_iff_getElem.1 (eachT_asc st 0) i j hi hj hij
  obtain ⟨u, h1, h2⟩ := eachT_get (i := i) (n := (eachT st 0)[i].1) (s := (eachT st 0)[i].2) (by rw [List.getElem?_eq_getElem hi])
  obtain ⟨v, h3, h4⟩ := eachT_get (i := j) (n := (eachT st 0)[j].1) (s := (eachT st 0)[j].2) (by rw [List.getElem?_eq_getElem hj])
  rw [← he] at h3
  have := hd _ _ _ _ _ h1 h3 h2 h4
  omega
theorem txT_mem {st : List (ByteArray × Nat)} {s : ByteArray} : s ∈ txT st ↔ ∃ u, HasE st s u := by
  unfold txT
  rw [List.mem_map]
  constructor
  · rintro ⟨⟨n, s'⟩, h, rfl⟩
    obtain ⟨m, u, _, h2, h3⟩ := eachT_mem.1 h
    exact ⟨u, m, h2, h3⟩
  · rintro ⟨u, n, h1, h2⟩
    exact ⟨(n, s), eachT_mem.2 ⟨n, u, by omega, h1, h2⟩, rfl⟩
theorem sum_point : ∀ (l : List ByteArray) (F : ByteArray → Nat) (s : ByteArray), l.Nodup → (s ∉ l → F s = 0) → (l.map (fun x => if x = s then 0 else F x)).sum + F s = (l.map F).sum
  | [], F, s, _, h => by simp [h]
  | x :: r, F, s, hn, h => by
    obtain ⟨h1, h2⟩ := List.nodup_cons.1 hn
    simp only [List.map_cons, List.sum_cons]
    by_cases e : x = s
    · subst e
      rw [if_pos rfl]
      have : r.map (fun y => if y = x then 0 else F y) = r.map F := List.map_congr_left (fun y hy => if_neg (by rintro rfl; exact h1 hy))
      rw [this]
      omega
    · rw [if_neg e]
      have := sum_point r F s h2 (fun hs => h (fun hm => by rcases List.mem_cons.1 hm with e' | e'; exact e e'.symm; exact hs e'))
      omega
open Classical in
/-- what is left of the counts once the first i texts were set to none -/
noncomputable def leftT (st : List (ByteArray × Nat)) (texts : List ByteArray) (i : Nat) (s : ByteArray) : Nat := if s ∈ texts.take i then 0 else cntT st s
noncomputable def allT (st : List (ByteArray × Nat)) (texts : List ByteArray) : Nat → Nat
  | 0 => 0
  | i + 1 => allT st texts i + leftT st texts i (texts.getD i ByteArray.empty)
theorem all_left {st : List (ByteArray × Nat)} {texts : List ByteArray} (hd : Dist st) : ∀ i, i ≤ texts.length → allT st texts i + ((txT st).map (leftT st texts i)).sum = ((txT st).map (cntT st)).sum
  | 0, _ => by rw [show leftT st texts 0 = cntT st by funext s; unfold leftT; simp]; simp [allT]
  | i + 1, hi => by
    have hil : i < texts.length := by omega
    have ih := all_left (texts := texts) hd i (by omega)
    have htk : texts.take (i + 1) = texts.take i ++ [texts[i]] := List.take_succ_eq_append_getElem hil
    have hs : texts.getD i ByteArray.empty = texts[i] := by simp [show i < texts.length by omega]
    have hstep : ∀ x, leftT st texts (i + 1) x = if x = texts[i] then 0 else leftT st texts i x := fun x => by
      unfold leftT
      rw [htk]
      by_cases e : x = texts[i]
      · subst e; rw [if_pos (List.mem_append_right _ (List.mem_singleton.2 rfl)), if_pos rfl]
      · by_cases e2 : x ∈ texts.take i
        · rw [if_pos (List.mem_append_left _ e2), if_neg e, if_pos e2]
        · rw [if_neg (fun h => by rcases List.mem_append.1 h with h | h; exact e2 h; exact e (List.mem_singleton.1 h)), if_neg e, if_neg e2]
    have hp := sum_point (txT st) (leftT st texts i) texts[i] (txT_nodup hd) (fun hn => by
      unfold leftT
      split
      · rfl
      · by_cases h0 : 0 < cntT st texts[i]
        · exact absurd (txT_mem.2 ⟨_, has_cnt h0⟩) hn
        · omega)
    unfold allT
    rw [hs]
    have e : (txT st).map (leftT st texts (i + 1)) = (txT st).map (fun x => if x = texts[i] then 0 else leftT st texts i x) := List.map_congr_left (fun x _ => hstep x)
    rw [e]
    omega
theorem sum_zero : ∀ l : List ByteArray, (l.map (fun _ => 0)).sum = 0
  | [] => rfl
  | _ :: r => by rw [List.map_cons, List.sum_cons, sum_zero r]
theorem all_sum {st : List (ByteArray × Nat)} {texts : List ByteArray} (hd : Dist st) (hs : ∀ s u, HasE st s u → s ∈ texts) : allT st texts texts.length = ((txT st).map (cntT st)).sum := by
  have h := all_left hd texts.length (Nat.le_refl _)
  have e : ((txT st).map (leftT st texts texts.length)).sum = 0 := by
    have : (txT st).map (leftT st texts texts.length) = (txT st).map (fun _ => 0) := List.map_congr_left (fun x hx => by
      obtain ⟨u, hu⟩ := txT_mem.1 hx
      unfold leftT
      rw [List.take_length, if_pos (hs x u hu)])
    rw [this, sum_zero]
  omega
/-- the counts of the first i entries -/
def sumT (st : List (ByteArray × Nat)) (i : Nat) : Nat := (((txT st).take i).map (cntT st)).sum
theorem sumT_succ {st : List (ByteArray × Nat)} {i n : Nat} {s : ByteArray} (h : (eachT st 0)[i]? = some (n, s)) : sumT st (i + 1) = sumT st i + cntT st s := by
  have h2 : (txT st)[i]? = some s := by unfold txT; rw [List.getElem?_map, h]; rfl
  unfold sumT
  rw [List.take_add_one, h2]
  simp
theorem sumT_all (st : List (ByteArray × Nat)) : sumT st (eachT st 0).length = ((txT st).map (cntT st)).sum := by
  unfold sumT
  rw [List.take_of_length_le (by simp [txT])]
theorem sumT_le {st : List (ByteArray × Nat)} {B : Nat} (h : UpTo st B) : ∀ i, sumT st i ≤ i * B
  | 0 => by simp [sumT]
  | i + 1 => by
    have ih := sumT_le h i
    have hc : ∀ s, cntT st s ≤ B := fun s => by
      by_cases h0 : 0 < cntT st s
      · obtain ⟨n, h1, _⟩ := has_cnt h0
        exact h _ (List.mem_of_getElem? h1)
      · omega
    cases hx : (eachT st 0)[i]? with
    | some p =>
      rw [sumT_succ (n := p.1) (s := p.2) hx, Nat.add_mul, Nat.one_mul]
      have := hc p.2
      omega
    | none =>
      have : sumT st (i + 1) = sumT st i := by
        unfold sumT
        have h2 : (txT st)[i]? = none := by unfold txT; rw [List.getElem?_map, hx]; rfl
        rw [List.take_add_one, h2]
        simp
      rw [this, Nat.add_mul]
      omega
theorem allT_le {st : List (ByteArray × Nat)} {texts : List ByteArray} {B : Nat} (h : UpTo st B) : ∀ i, allT st texts i ≤ i * B
  | 0 => by simp [allT]
  | i + 1 => by
    have ih := allT_le (texts := texts) h i
    have hc : ∀ s, cntT st s ≤ B := fun s => by
      by_cases h0 : 0 < cntT st s
      · obtain ⟨n, h1, _⟩ := has_cnt h0
        exact h _ (List.mem_of_getElem? h1)
      · omega
    have : leftT st texts i (texts.getD i ByteArray.empty) ≤ B := by unfold leftT; split; omega; exact hc _
    unfold allT
    rw [Nat.add_mul, Nat.one_mul]
    omega
end Go.Proofs.Ytenbpfjmdbcgkaa
