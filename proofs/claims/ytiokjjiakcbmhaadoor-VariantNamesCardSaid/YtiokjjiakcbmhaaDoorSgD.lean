/-
  What binding one more variable makes, in two ways. No condition. Binding one more variable. Conditions: as each says. Composing bindings. Conditions: as each says.
-/
import Derived.Test.YtiokjjiakcbmhaaDoorSgA
import Derived.Test.YtiokjjiakcbmhaaDoorSgB
import Derived.Handy
namespace Go.Proofs.YtiokjjiakcbmhaaDoor
open Go.RowKit

theorem selfB_iff {b : BindD} : selfB b = true ↔ b.t = ⟨true, b.v⟩ := by
  obtain ⟨v, tv, s⟩ := b
  unfold selfB
  simp [TermD.mk.injEq]
theorem putB_cons (x : BindD) (l : List BindD) (b : BindD) : putB (x :: l) b = if ltS b.v x.v then b :: x :: l else x :: putB l b := rfl
theorem map_put (f : BindD → BindD) (hf : ∀ x, (f x).v = x.v) : ∀ (l : List BindD) (b : BindD), (putB l b).map f = putB (l.map f) (f b)
  | [], b => rfl
  | y :: l, b => by
    rw [List.map_cons, putB_cons, putB_cons, hf, hf]
    split
    · rfl
    · rw [List.map_cons, map_put f hf l b]
theorem subT_one {b : BindD} {t : TermD} : subT [b] t = if t.v = true ∧ t.name = b.v then b.t else t := by
  unfold subT
  simp only [getB]
  by_cases h : b.v = t.name
  · rw [if_pos h]
    cases hv : t.v
    · simp
    · simp [h]
  · have hk : ¬ (t.v = true ∧ t.name = b.v) := fun k => h k.2.symm
    rw [if_neg h, if_neg hk]
    simp
/-- what a term becomes is no variable that is bound -/
theorem subT_free {l : List BindD} (hl : checkB l = true) (t : TermD) : (subT l t).v = true → getB l (subT l t).name = none := by
  intro h
  obtain ⟨hA, hc⟩ := checkB_iff.1 hl
  by_cases hv : t.v = true
  · cases e : getB l t.name with
    | none =>
      have : subT l t = t := by unfold subT; rw [if_pos hv, e]; rfl
      rw [this]; exact e
    | some u =>
      have : subT l t = u := by unfold subT; rw [if_pos hv, e]; rfl
      rw [this] at h ⊢
      exact (hc _ (getB_mem e)).2 h
  · have : subT l t = t := by unfold subT; rw [if_neg hv]
    rw [this] at h
    exact absurd h hv
theorem und_with {l : List BindD} {v : ByteArray} {t : TermD} (hl : checkB l = true) (hv : (getB l v).isSome = false) (hs : selfB ⟨v, subT l t⟩ = false) :
    undB (withB l ⟨v, subT l t⟩) [⟨v, subT l t⟩] = putB (l.map (fun y => ⟨y.v, subT [⟨v, subT l t⟩] y.t⟩)) ⟨v, subT l t⟩ := by
  obtain ⟨hA, hc⟩ := checkB_iff.1 hl
  have hn : getB l v = none := by cases e : getB l v with | none => rfl | some u => rw [e] at hv; cases hv
  have hne := getB_none.1 hn
  have hfree := subT_free hl t
  have hs2 : ¬ (subT l t = ⟨true, v⟩) := fun e => by
    have : selfB ⟨v, subT l t⟩ = true := selfB_iff.2 e
    rw [hs] at this; cases this
  generalize subT l t = u at hfree hs hs2 ⊢
  rw [← put_at (b := ⟨v, u⟩) hA hne]
  unfold undB
  rw [map_put (fun b => ⟨b.v, subT [⟨v, u⟩] b.t⟩) (fun _ => rfl)]
  have e : subT [⟨v, u⟩] u = u := by
    rw [subT_one]
    by_cases h : u.v = true ∧ u.name = v
    · exact absurd (TermD.ext' h.1 h.2) hs2
    · rw [if_neg h]
  simp only [e]
  rw [List.filter_eq_self]
  intro x hx
  rw [Bool.not_eq_true', ← Bool.not_eq_true, selfB_iff]
  rcases putB_mem.1 hx with rfl | hx
  · exact hs2
  · obtain ⟨y, hy, rfl⟩ := List.mem_map.1 hx
    intro h
    simp only at h
    have hy1 : getB l y.v = some y.t := getB_of_mem hA hy
    rw [subT_one] at h
    split at h
    · simp only at h
      have := hfree (by rw [h])
      rw [h] at this
      simp only at this
      rw [hy1] at this; cases this
    · have := (hc y hy).2 (by rw [h])
      rw [h] at this
      simp only at this
      rw [hy1] at this; cases this
theorem bind_bad {l : List BindD} {v : ByteArray} {t : TermD} (h : checkB l = false) : bindD l v t = ([], 15) := by unfold bindD; rw [if_pos h]
theorem bind_arg {l : List BindD} {v : ByteArray} {t : TermD} (h : checkB l = true) (h2 : v = emp ∨ t.name = emp) : bindD l v t = ([], 2) := by unfold bindD; rw [if_neg (by simp [h]), if_pos h2]
theorem bind_twice {l : List BindD} {v : ByteArray} {t : TermD} (h : checkB l = true) (h2 : ¬ (v = emp ∨ t.name = emp)) (h3 : (getB l v).isSome = true) : bindD l v t = ([], 5) := by unfold bindD; rw [if_neg (by simp [h]), if_neg h2, if_pos h3]
theorem bind_self {l : List BindD} {v : ByteArray} {t : TermD} (h : checkB l = true) (h2 : ¬ (v = emp ∨ t.name = emp)) (h3 : (getB l v).isSome = false) (h4 : selfB ⟨v, subT l t⟩ = true) : bindD l v t = ([], 2) := by unfold bindD; rw [if_neg (by simp [h]), if_neg h2, if_neg (by simp [h3]), if_pos h4]
theorem bind_ok {l : List BindD} {v : ByteArray} {t : TermD} (h : checkB l = true) (h2 : ¬ (v = emp ∨ t.name = emp)) (h3 : (getB l v).isSome = false) (h4 : selfB ⟨v, subT l t⟩ = false) :
    bindD l v t = (putB (l.map (fun y => ⟨y.v, subT [⟨v, subT l t⟩] y.t⟩)) ⟨v, subT l t⟩, 0) := by unfold bindD; rw [if_neg (by simp [h]), if_neg h2, if_neg (by simp [h3]), if_neg (by simp [h4])]
theorem errB_ok {l : List BindD} (h : checkB l = true) : errB l = 0 := by unfold errB; rw [if_pos h]
theorem errB_bad {l : List BindD} (h : checkB l = false) : errB l = 15 := by unfold errB; rw [if_neg (by simp [h])]
end Go.Proofs.YtiokjjiakcbmhaaDoor
namespace Go.Proofs.YtiokjjiakcbmhaaDoor
open Go.RowKit

theorem withB_len (l : List BindD) (b : BindD) : (withB l b).length = l.length + 1 := by
  unfold withB
  have := placeN_le l b.v
  rw [List.length_append, List.length_take, List.length_cons, List.length_drop]
  omega
theorem asc_one (b : BindD) : Asc [b] := asc_cons.2 ⟨by simp, asc_nil⟩
end Go.Proofs.YtiokjjiakcbmhaaDoor
namespace Go.Proofs.YtiokjjiakcbmhaaDoor
open Go.RowKit

theorem und_asc {l : List BindD} (h : Asc l) (m : List BindD) : Asc (undB l m) := by
  unfold undB
  refine asc_sub ?_ (List.filter_sublist ..)
  unfold Asc at h ⊢
  rw [List.pairwise_map]
  exact h
theorem unb_asc {l : List BindD} (h : Asc l) (m : List BindD) : Asc (unbB l m) := asc_sub h (List.filter_sublist ..)
theorem joinB_len : ∀ (m l : List BindD), (joinB l m).length = l.length + m.length
  | [], l => rfl
  | b :: m, l => by
    have := placeN_le l b.v
    rw [joinB_cons, List.length_append, List.length_cons, joinB_len m, List.length_take, List.length_drop, List.length_cons]
    omega
theorem compL_len (a b : List BindD) : (compL a b).length ≤ a.length + b.length := by
  unfold compL
  rw [joinB_len]
  have := und_len a b
  have := unb_len b a
  omega
theorem comp_bad1 {a b : List BindD} (h : checkB a = false) : compD a b = ([], 15) := by unfold compD; rw [if_pos (.inl h)]
theorem comp_bad2 {a b : List BindD} (h : checkB b = false) : compD a b = ([], 15) := by unfold compD; rw [if_pos (.inr h)]
theorem comp_bad3 {a b : List BindD} (h1 : checkB a = true) (h2 : checkB b = true) (h : checkB (compL a b) = false) : compD a b = ([], 15) := by unfold compD; rw [if_neg (by simp [h1, h2]), if_neg (by simp [h])]
theorem comp_ok {a b : List BindD} (h1 : checkB a = true) (h2 : checkB b = true) (h : checkB (compL a b) = true) : compD a b = (compL a b, 0) := by unfold compD; rw [if_neg (by simp [h1, h2]), if_pos h]

end Go.Proofs.YtiokjjiakcbmhaaDoor
