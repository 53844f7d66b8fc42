/-
  A table of strings with numbers, in plain mathematics: how often each string is there, and what a call turns. No condition.
-/
import Derived.Test.YtobelhfhciafcaaInL
namespace Go.Proofs.Ytobelhfhciafcaa
open Go.RowKit

/-- how often s is there -/
def cntT (st : List (ByteArray × Nat)) (s : ByteArray) : Nat := match numAt st s with
  | some n => (st[n]?.getD (ByteArray.empty, 0)).2
  | none => 0
/-- s is there u times -/
def HasE (st : List (ByteArray × Nat)) (s : ByteArray) (u : Nat) : Prop := ∃ n : Nat, st[n]? = some (s, u) ∧ 0 < u
/-- no string is there twice -/
def Dist (st : List (ByteArray × Nat)) : Prop := ∀ (n n' : Nat) s u u', st[n]? = some (s, u) → st[n']? = some (s, u') → 0 < u → 0 < u' → n = n'
theorem TGood.dist {st : List (ByteArray × Nat)} {f : ByteArray → Option Value} {c : Nat} {frees : List Int} (h : TGood st f c frees) : Dist st := fun _ _ _ _ _ h1 h2 hu hu' => h.numEq h1 h2 hu hu'
theorem cnt_some {st : List (ByteArray × Nat)} {s : ByteArray} {n : Nat} (h : numAt st s = some n) : st[n]? = some (s, cntT st s) ∧ 0 < cntT st s := by
  obtain ⟨u, h1, h2⟩ := numAt_some h
  have : cntT st s = u := by unfold cntT; rw [h]; simp [h1]
  rw [this]; exact ⟨h1, h2⟩
theorem cnt_none {st : List (ByteArray × Nat)} {s : ByteArray} (h : numAt st s = none) : cntT st s = 0 := by unfold cntT; rw [h]
theorem cnt_has {st : List (ByteArray × Nat)} {s : ByteArray} {u : Nat} (hd : Dist st) (h : HasE st s u) : cntT st s = u := by
  obtain ⟨n, h1, h2⟩ := h
  cases hn : numAt st s with
  | none => exact absurd h2 (numAt_none hn n u h1)
  | some m =>
    obtain ⟨h3, h4⟩ := cnt_some hn
    have := hd n m s u _ h1 h3 h2 h4
    subst this
    rw [h1] at h3
    exact (congrArg Prod.snd (Option.some.inj h3)).symm
theorem has_cnt {st : List (ByteArray × Nat)} {s : ByteArray} (h : 0 < cntT st s) : HasE st s (cntT st s) := by
  cases hn : numAt st s with
  | none => rw [cnt_none hn] at h; omega
  | some m => exact ⟨m, (cnt_some hn).1, h⟩
theorem cnt_congr {st st1 : List (ByteArray × Nat)} {s : ByteArray} (hd : Dist st) (hd1 : Dist st1) (h : ∀ u, HasE st1 s u ↔ HasE st s u) : cntT st1 s = cntT st s := by
  by_cases h0 : 0 < cntT st s
  · exact cnt_has hd1 ((h _).2 (has_cnt h0))
  · by_cases h1 : 0 < cntT st1 s
    · exact (cnt_has hd ((h _).1 (has_cnt h1))).symm
    · omega
/-- an entry put at a number where s was, or none -/
theorem has_set {st : List (ByteArray × Nat)} {n v : Nat} {s x : ByteArray} {u : Nat} (hn : st[n]? = some (x, u)) (hx : x = s ∨ u = 0) (s' : ByteArray) (hs : s' ≠ s) (u' : Nat) : HasE (st.set n (s, v)) s' u' ↔ HasE st s' u' := by
  have hl := (List.getElem?_eq_some_iff.1 hn).1
  constructor
  · rintro ⟨m, h1, h2⟩
    rw [set_at hl] at h1
    split at h1
    · exact absurd (congrArg Prod.fst (Option.some.inj h1)).symm hs
    · exact ⟨m, h1, h2⟩
  · rintro ⟨m, h1, h2⟩
    refine ⟨m, ?_, h2⟩
    rw [set_at hl, if_neg]
    · exact h1
    · rintro rfl
      rw [hn] at h1
      cases h1
      rcases hx with h | h
      · exact hs h
      · omega
theorem has_snoc {st : List (ByteArray × Nat)} {v : Nat} {s : ByteArray} (s' : ByteArray) (hs : s' ≠ s) (u' : Nat) : HasE (st ++ [(s, v)]) s' u' ↔ HasE st s' u' := by
  constructor
  · rintro ⟨m, h1, h2⟩
    rw [List.getElem?_append] at h1
    split at h1
    · exact ⟨m, h1, h2⟩
    · have := List.mem_of_getElem? h1
      simp at this
      exact absurd this.1 hs
  · rintro ⟨m, h1, h2⟩
    have hl := (List.getElem?_eq_some_iff.1 h1).1
    exact ⟨m, by rw [List.getElem?_append_left hl]; exact h1, h2⟩
/-- every use count is at most B -/
def UpTo (st : List (ByteArray × Nat)) (B : Nat) : Prop := ∀ p ∈ st, p.2 ≤ B
theorem UpTo.set {st : List (ByteArray × Nat)} {B n v : Nat} {s : ByteArray} (h : UpTo st B) (hv : v ≤ B) : UpTo (st.set n (s, v)) B := fun p hp => by
  rcases List.mem_or_eq_of_mem_set hp with h1 | rfl
  · exact h p h1
  · exact hv
theorem usedB_false {p : ByteArray × Nat} (h : usedB p = false) : p.2 = 0 := by unfold usedB at h; simpa using h
theorem free_at {st : List (ByteArray × Nat)} (h : freeAt st < st.length) : ∃ x, st[freeAt st]? = some (x, 0) := by
  unfold freeAt at h ⊢
  have := List.findIdx_getElem (w := h)
  have h2 : usedB (st[st.findIdx (fun p => !usedB p)]) = false := by simpa using this
  exact ⟨(st[st.findIdx (fun p => !usedB p)]).1, by rw [List.getElem?_eq_getElem h]; rw [Option.some.injEq]; exact Prod.ext rfl (usedB_false h2)⟩
theorem used_le {st : List (ByteArray × Nat)} {n : Nat} (e : ByteArray × Nat) (hl : n < st.length) : usedN (st.set n e) ≤ usedN st + 1 := by
  have := usedN_set (e := e) hl
  split at this <;> split at this <;> omega
theorem used_le' {st : List (ByteArray × Nat)} {n : Nat} (e : ByteArray × Nat) (hl : n < st.length) (h : usedB st[n] = true) : usedN (st.set n e) ≤ usedN st := by
  have := usedN_set (e := e) hl
  rw [if_pos h] at this
  split at this <;> omega
theorem full_of_free {st : List (ByteArray × Nat)} (h : ¬ freeAt st < st.length) : usedN st = st.length := by
  unfold usedN
  rw [List.countP_eq_length]
  intro p hp
  unfold freeAt at h
  cases hu : usedB p with
  | true => rfl
  | false => exact absurd (List.findIdx_lt_length_of_exists ⟨p, hp, by simp [hu]⟩) h

structure Took (st st1 : List (ByteArray × Nat)) (s : ByteArray) (n B : Nat) : Prop where
  at_ : st1[n]? = some (s, cntT st s + 1)
  oth : ∀ s', s' ≠ s → ∀ u, HasE st1 s' u ↔ HasE st s' u
  len : st1.length = st.length ∨ st1.length = usedN st1
  up : UpTo st1 (B + 1)
  used : usedN st1 ≤ usedN st + 1
theorem took {st : List (ByteArray × Nat)} {s : ByteArray} {B : Nat} (h1 : 1 ≤ s.size) (h2 : s.size ≤ 255) (hc : usedN st < 65536) (hb : UpTo st B) : ∃ st1 n, takeT st s = (st1, n, 0) ∧ Took st st1 s n B := by
  unfold takeT
  rw [if_neg (by omega)]
  have hb1 : UpTo st (B + 1) := fun p hp => by have := hb p hp; omega
  cases hn : numAt st s with
  | some n =>
    obtain ⟨h3, h4⟩ := cnt_some hn
    have hl := (List.getElem?_eq_some_iff.1 h3).1
    have hB := hb _ (List.mem_of_getElem? h3)
    refine ⟨_, n, rfl, ?_⟩
    rw [modify_at h3]
    refine ⟨set_get hl _, fun s' hs u => has_set h3 (.inl rfl) s' hs u, .inl (by simp), hb1.set (by simp at hB ⊢; exact hB), used_le _ hl⟩
  | none =>
    simp only
    rw [if_neg (by omega)]
    refine ⟨_, freeAt st, rfl, ?_⟩
    by_cases hf : freeAt st < st.length
    · rw [if_pos hf]
      obtain ⟨x, hx⟩ := free_at hf
      have e : cntT st s = 0 := cnt_none hn
      refine ⟨by rw [e]; exact set_get hf _, fun s' hs u => has_set hx (.inr rfl) s' hs u, .inl (by simp), hb1.set (by omega), used_le _ hf⟩
    · rw [if_neg hf]
      have e : cntT st s = 0 := cnt_none hn
      have hlen : freeAt st = st.length := Nat.le_antisymm List.findIdx_le_length (by omega)
      have hu : usedN (st ++ [(s, 1)]) = usedN st + 1 := by rw [usedN_snoc]; simp [usedB]
      refine ⟨by rw [e, hlen]; simp, fun s' hs u => has_snoc s' hs u, .inr (by rw [hu, full_of_free hf]; simp), fun p hp => ?_, by omega⟩
      rcases List.mem_append.1 hp with h | h
      · exact hb1 p h
      · simp at h; subst h; simp
theorem took_bad {st : List (ByteArray × Nat)} {s : ByteArray} (h : ¬ (1 ≤ s.size ∧ s.size ≤ 255)) : takeT st s = (st, 0, 2) := by
  unfold takeT; rw [if_pos (by omega)]
structure Gone (st st1 : List (ByteArray × Nat)) (s : ByteArray) (B : Nat) : Prop where
  cnt : Dist st1 → cntT st1 s = cntT st s - 1
  oth : ∀ s', s' ≠ s → ∀ u, HasE st1 s' u ↔ HasE st s' u
  len : st1.length = st.length
  up : UpTo st1 B
  used : usedN st1 ≤ usedN st
theorem gone {st : List (ByteArray × Nat)} {s : ByteArray} {n B : Nat} (hd : Dist st) (hn : numAt st s = some n) (hb : UpTo st B) : ∃ st1, dropT st (n : Int) = (st1, 0) ∧ Gone st st1 s B := by
  obtain ⟨h3, h4⟩ := cnt_some hn
  have hl := (List.getElem?_eq_some_iff.1 h3).1
  have hB := hb _ (List.mem_of_getElem? h3)
  unfold dropT
  rw [if_pos (hasT_at h3 h4), show ((n : Nat) : Int).toNat = n by omega, modify_at h3]
  refine ⟨_, rfl, ?_⟩
  have h5 : usedB st[n] = true := by rw [(List.getElem?_eq_some_iff.1 h3).2]; simpa [usedB] using h4
  by_cases h1 : cntT st s = 1
  · rw [if_pos h1]
    refine ⟨fun _ => ?_, fun s' hs u => ?_, by simp, hb.set (by omega), ?_⟩
    · rw [h1]
      refine cnt_none (numAt_missL (fun j v hj hv => ?_))
      rw [set_at hl] at hj
      split at hj
      · have := congrArg Prod.snd (Option.some.inj hj); simp at this; omega
      · rename_i hne
        exact hne (hd n j s _ _ h3 hj h4 hv)
    · constructor
      · rintro ⟨m, g1, g2⟩
        rw [set_at hl] at g1
        split at g1
        · have := congrArg Prod.snd (Option.some.inj g1); simp at this; omega
        · exact ⟨m, g1, g2⟩
      · rintro ⟨m, g1, g2⟩
        refine ⟨m, ?_, g2⟩
        rw [set_at hl, if_neg]
        · exact g1
        · rintro rfl
          rw [h3] at g1
          exact hs (congrArg Prod.fst (Option.some.inj g1)).symm
    · exact used_le' _ hl h5
  · rw [if_neg h1]
    refine ⟨fun hd1 => cnt_has hd1 ⟨n, set_get hl _, by omega⟩, fun s' hs u => has_set h3 (.inl rfl) s' hs u, by simp, hb.set (by simp at hB ⊢; omega), used_le' _ hl h5⟩
end Go.Proofs.Ytobelhfhciafcaa
