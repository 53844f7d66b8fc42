/-
  What is found in an ascending list: a text put in, or taken out, at its place. No condition.
-/
import Derived.Test.YtamghlneoglfnaaOrI
namespace Go.Proofs.Ytamghlneoglfnaa
open Go.RowKit

theorem find_has {s : List AtomD} {a : AtomD} {i : Nat} {b : Bool} (hA : AscA s) (h : FindD s (textD a) i b) : b = hasK s a := by
  obtain ⟨h1, h2, h3⟩ := h.asc hA
  cases b with
  | true =>
    obtain ⟨hi, e⟩ := h.hit rfl
    exact (hasK_iff.2 ⟨s[i], List.getElem_mem hi, e⟩).symm
  | false =>
    cases q : hasK s a with
    | false => rfl
    | true =>
      obtain ⟨y, hy, e⟩ := hasK_iff.1 q
      obtain ⟨j, hj, rfl⟩ := List.getElem_of_mem hy
      rcases Nat.lt_trichotomy j i with hlt | heq | hgt
      · have := h1 j hj hlt
        rw [e, ltS_irr] at this; cases this
      · subst heq
        exact absurd e (h3 rfl hj)
      · have hi : i < s.length := by omega
        have k1 := List.pairwise_iff_getElem.1 hA i j hi hj hgt
        have k2 := h2 i hi (Nat.le_refl _)
        unfold ltA at k1
        rw [e, k2] at k1; cases k1
theorem find_any_hit {l : List AtomD} {a : AtomD} {i : Nat} (h : FindD l (textD a) i true) : hasK l a = true := by
  obtain ⟨hi, e⟩ := h.hit rfl
  exact hasK_iff.2 ⟨l[i], List.getElem_mem hi, e⟩
theorem find_add {l : List AtomD} {a : AtomD} {i : Nat} (h : FindD (sortedD l) (textD a) i false) : (sortedD l).take i ++ ([a] ++ (sortedD l).drop i) = addD l a ∧ hasK l a = false := by
  have hA := sorted_ascA l
  have hh := find_has hA h
  obtain ⟨h1, h2, h3⟩ := h.asc hA
  have hnot : ∀ y ∈ sortedD l, textD y ≠ textD a := fun y hy e => by
    have := hasK_iff.2 ⟨y, hy, e⟩
    rw [← hh] at this; cases this
  refine ⟨?_, by rw [← sorted_hasK]; exact hh.symm⟩
  generalize hs : sortedD l = s at *
  have hfl : ∀ k, firstK s k = firstK l k := fun k => by rw [← hs, sorted_first]
  have ht : ∀ x ∈ s.take i, ltA x a = true := fun x hx => by
    obtain ⟨j, hj, rfl⟩ := List.getElem_of_mem hx
    rw [List.length_take] at hj
    rw [List.getElem_take]
    exact h1 j (by omega) (by omega)
  have hd : ∀ x ∈ s.drop i, ltA a x = true := fun x hx => by
    obtain ⟨j, hj, rfl⟩ := List.getElem_of_mem hx
    rw [List.length_drop] at hj
    rw [List.getElem_drop]
    have k1 := h2 (i + j) (by omega) (by omega)
    have k2 := hnot _ (List.getElem_mem (show i + j < s.length by omega))
    cases q : ltA a s[i + j] with
    | true => rfl
    | false => exact absurd (ltS_tri k1 q) k2
  refine sorted_eq (asc_appA.2 ⟨asc_subA hA (List.take_sublist _ _), asc_consA.2 ⟨hd, asc_subA hA (List.drop_sublist _ _)⟩, fun x hx y hy => ?_⟩) fun k => ?_
  · rcases List.mem_cons.1 hy with rfl | hy
    · exact ht x hx
    · exact ltA_trans (ht x hx) (hd y hy)
  · have e1 : firstK s k = (firstK (s.take i) k).or (firstK (s.drop i) k) := by rw [← firstK_app, List.take_append_drop]
    rw [firstK_app, firstK_app, firstK_app, ← hfl k, e1, firstK_cons a [], firstK_nil]
    by_cases e : textD a = k
    · have hn : firstK s k = none := firstK_none.2 (fun y hy e2 => hnot y hy (e2.trans e.symm))
      rw [e1] at hn
      cases q1 : firstK (s.take i) k with
      | some x => rw [q1] at hn; cases hn
      | none =>
        rw [q1] at hn
        have q2 : firstK (s.drop i) k = none := hn
        rw [q2, if_pos e]; rfl
    · rw [if_neg e]
      cases firstK (s.take i) k with
      | some x => rfl
      | none => cases firstK (s.drop i) k <;> rfl
theorem hasK_one {a x : AtomD} : hasK [a] x = true ↔ textD a = textD x := by
  rw [hasK_iff]
  constructor
  · rintro ⟨y, hy, e⟩
    rw [← List.mem_singleton.1 hy]; exact e
  · exact fun e => ⟨a, List.mem_singleton.2 rfl, e⟩
theorem not_one {a x : AtomD} (h : textD a ≠ textD x) : (!hasK [a] x) = true := by
  cases q : hasK [a] x with
  | false => rfl
  | true => exact absurd (hasK_one.1 q) h
theorem filter_all {l : List AtomD} {p : AtomD → Bool} (h : ∀ x ∈ l, p x = true) : l.filter p = l := List.filter_eq_self.2 h
theorem find_out {l : List AtomD} {a : AtomD} {i : Nat} (h : FindD (sortedD l) (textD a) i false) : sortedD l = removeD l a ∧ hasK l a = false := by
  have hA := sorted_ascA l
  have hh := find_has hA h
  refine ⟨?_, by rw [← sorted_hasK]; exact hh.symm⟩
  unfold removeD minusD
  refine (filter_all fun x hx => not_one fun e => ?_).symm
  have := hasK_iff.2 ⟨x, hx, e.symm⟩
  rw [← hh] at this; cases this
theorem find_remove {l : List AtomD} {a : AtomD} {i : Nat} (h : FindD (sortedD l) (textD a) i true) : (sortedD l).take i ++ (sortedD l).drop (i + 1) = removeD l a ∧ hasK l a = true ∧ i < (sortedD l).length := by
  have hA := sorted_ascA l
  have hh := find_has hA h
  obtain ⟨hi, e⟩ := h.hit rfl
  refine ⟨?_, by rw [← sorted_hasK]; exact hh.symm, hi⟩
  unfold removeD minusD
  generalize hs : sortedD l = s at *
  obtain ⟨h1, _, _⟩ := h.asc hA
  have e1 : s = s.take i ++ s[i] :: s.drop (i + 1) := by rw [← List.drop_eq_getElem_cons hi, List.take_append_drop]
  have k1 : (s.take i).filter (fun x => !hasK [a] x) = s.take i := filter_all fun x hx => not_one fun e2 => by
    obtain ⟨j, hj, rfl⟩ := List.getElem_of_mem hx
    rw [List.length_take] at hj
    rw [List.getElem_take] at e2
    have := h1 j (by omega) (by omega)
    rw [← e2, ltS_irr] at this; cases this
  have k2 : (s.drop (i + 1)).filter (fun x => !hasK [a] x) = s.drop (i + 1) := filter_all fun x hx => not_one fun e2 => by
    obtain ⟨j, hj, rfl⟩ := List.getElem_of_mem hx
    rw [List.length_drop] at hj
    rw [List.getElem_drop] at e2
    have := List.pairwise_iff_getElem.1 hA i (i + 1 + j) hi (by omega) (by omega)
    exact ltA_ne this (e.trans e2)
  have k3 : (!hasK [a] s[i]) = false := by rw [hasK_one.2 e.symm]; rfl
  conv => rhs; rw [e1]
  rw [List.filter_append, List.filter_cons, k1, k2, k3]
  rfl
theorem sm_sorted {l : List AtomD} (h : SmA l) : SmA (sortedD l) := fun x hx => h x (sorted_memA hx)
theorem minus_succ {l m : List AtomD} {k : Nat} (h : k < l.length) : (l.take (k + 1)).filter (fun a => !hasK m a) = (l.take k).filter (fun a => !hasK m a) ++ if (!hasK m l[k]) = true then [l[k]] else [] := by
  rw [List.take_add_one, List.getElem?_eq_getElem h, Option.toList_some, List.filter_append, List.filter_cons, List.filter_nil]
theorem hasK_sort (m : List AtomD) (a : AtomD) : hasK (sortedD m) a = hasK m a := sorted_hasK m a
/-- the tail of a slice -/
theorem al_drop {w : World} {b o ca : Nat} {l : List AtomD} (h : AL w (some ⟨b, o, none⟩) ca l) {i : Nat} (hi : i ≤ l.length) : AL w (some ⟨b, o + i * 11, none⟩) (ca - i) (l.drop i) :=
  ⟨h.items.drop i, by have := h.le; rw [List.length_drop]; omega, (fun e => by cases e), fun a e _ => ⟨b, o + i * 11, by injection e with e; exact e.symm⟩⟩
theorem al_end (w : World) (A : Option Addr) {l : List AtomD} (h : l = []) : AL w A 0 l := by subst h; exact SliceAt.zero w A
end Go.Proofs.Ytamghlneoglfnaa
