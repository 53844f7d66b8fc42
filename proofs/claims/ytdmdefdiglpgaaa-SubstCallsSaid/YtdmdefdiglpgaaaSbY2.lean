/-
  Bindings put one by one are the composed list. No condition.
-/
import Derived.Test.YtdmdefdiglpgaaaSgG
namespace Go.Proofs.Ytdmdefdiglpgaaa
open Go.RowKit

theorem asc_ext : ∀ {l m : List BindD}, Asc l → Asc m → (∀ x, x ∈ l ↔ x ∈ m) → l = m
  | [], [], _, _, _ => rfl
  | [], b :: m, _, _, h => by have := (h b).2 (List.mem_cons_self ..); simp at this
  | a :: l, [], _, _, h => by have := (h a).1 (List.mem_cons_self ..); simp at this
  | a :: l, b :: m, ha, hb, h => by
    obtain ⟨a1, a2⟩ := asc_cons.1 ha
    obtain ⟨b1, b2⟩ := asc_cons.1 hb
    have e : a = b := by
      rcases List.mem_cons.1 ((h a).1 (List.mem_cons_self ..)) with e | h1
      · exact e
      · rcases List.mem_cons.1 ((h b).2 (List.mem_cons_self ..)) with e | h2
        · exact e.symm
        · have k1 := b1 a h1
          have k2 := a1 b h2
          have := ltS_asymm k1
          unfold ltB at k2
          rw [this] at k2; cases k2
    subst e
    have t : ∀ x, x ∈ l ↔ x ∈ m := fun x => by
      constructor
      · intro hx
        rcases List.mem_cons.1 ((h x).1 (List.mem_cons_of_mem _ hx)) with e | h1
        · subst e
          have := a1 x hx
          unfold ltB at this
          rw [ltS_irr] at this; cases this
        · exact h1
      · intro hx
        rcases List.mem_cons.1 ((h x).2 (List.mem_cons_of_mem _ hx)) with e | h1
        · subst e
          have := b1 x hx
          unfold ltB at this
          rw [ltS_irr] at this; cases this
        · exact h1
    rw [asc_ext a2 b2 t]
def putsB (l xs : List BindD) : List BindD := xs.foldl putB l
theorem puts_nil (l : List BindD) : putsB l [] = l := rfl
theorem puts_snoc (l xs : List BindD) (x : BindD) : putsB l (xs ++ [x]) = putB (putsB l xs) x := by unfold putsB; rw [List.foldl_append]; rfl
theorem puts_mem : ∀ {xs l : List BindD} {x : BindD}, x ∈ putsB l xs ↔ x ∈ l ∨ x ∈ xs
  | [], l, x => by simp [putsB]
  | y :: xs, l, x => by
    show x ∈ putsB (putB l y) xs ↔ _
    rw [puts_mem, putB_mem, List.mem_cons]
    constructor
    · rintro ((h | h) | h)
      · exact .inr (.inl h)
      · exact .inl h
      · exact .inr (.inr h)
    · rintro (h | h | h)
      · exact .inl (.inr h)
      · exact .inl (.inl h)
      · exact .inr h
theorem puts_len : ∀ (xs l : List BindD), (putsB l xs).length = l.length + xs.length
  | [], l => rfl
  | y :: xs, l => by
    show (putsB (putB l y) xs).length = _
    rw [puts_len, putB_len, List.length_cons]
    omega
theorem puts_asc : ∀ {xs l : List BindD}, Asc l → Asc xs → (∀ x ∈ l, ∀ y ∈ xs, x.v ≠ y.v) → Asc (putsB l xs)
  | [], l, h, _, _ => h
  | y :: xs, l, h, hx, hd => by
    obtain ⟨x1, x2⟩ := asc_cons.1 hx
    refine puts_asc (xs := xs) (putB_asc h (fun z hz => hd z hz y (List.mem_cons_self ..))) x2 (fun z hz u hu => ?_)
    rcases putB_mem.1 hz with rfl | hz
    · exact ltS_ne (x1 u hu)
    · exact hd z hz u (List.mem_cons_of_mem _ hu)
theorem comp_fold {a b : List BindD} (ha : Asc a) (hb : Asc b) : putsB (putsB [] (undB a b)) (unbB b a) = compL a b := by
  have h1 : Asc (putsB [] (undB a b)) := puts_asc asc_nil (und_asc ha b) (fun x hx => by simp at hx)
  refine asc_ext (puts_asc h1 (unb_asc hb a) (fun x hx y hy e => ?_)) (comp_asc ha hb) (fun x => ?_)
  · rcases puts_mem.1 hx with hx | hx
    · simp at hx
    · obtain ⟨z, hz, rfl, _⟩ := und_mem.1 hx
      have := (unb_mem.1 hy).2
      simp only at e
      rw [← e, getB_of_mem ha hz] at this
      cases this
  · rw [puts_mem, puts_mem]
    unfold compL
    rw [join_mem]
    simp
end Go.Proofs.Ytdmdefdiglpgaaa
