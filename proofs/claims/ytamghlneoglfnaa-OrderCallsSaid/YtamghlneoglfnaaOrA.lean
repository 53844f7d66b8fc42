/-
  Atoms in the order of their texts: sorted lists, each text once, as plain mathematics. No condition.
-/
import Derived.Test.YtamghlneoglfnaaSgA
import Derived.Test.YtamghlneoglfnaaVaQ
namespace Go.Proofs.Ytamghlneoglfnaa
open Go.RowKit

def ltA (a b : AtomD) : Bool := ltS (textD a) (textD b)
def sameK (a b : AtomD) : Bool := decide (textD a = textD b)
/-- -1, 0 or 1 -/
def cmpD (a b : AtomD) : Int := if ltA a b then -1 else if ltA b a then 1 else 0
def AscA (l : List AtomD) : Prop := l.Pairwise (fun a b => ltA a b = true)
instance (l : List AtomD) : Decidable (AscA l) := by unfold AscA; infer_instance
theorem sameK_iff {a b : AtomD} : sameK a b = true ↔ textD a = textD b := by unfold sameK; exact decide_eq_true_iff
theorem ltA_irr (a : AtomD) : ltA a a = false := ltS_irr _
theorem ltA_trans {a b c : AtomD} (h : ltA a b = true) (k : ltA b c = true) : ltA a c = true := ltS_trans h k
theorem ltA_asymm {a b : AtomD} (h : ltA a b = true) : ltA b a = false := ltS_asymm h
theorem ltA_ne {a b : AtomD} (h : ltA a b = true) : textD a ≠ textD b := ltS_ne h
theorem ltA_tri {a b : AtomD} (h : ltA a b = false) (k : ltA b a = false) : textD a = textD b := ltS_tri h k
theorem ltA_left {a b c : AtomD} (e : textD a = textD b) : ltA a c = ltA b c := by unfold ltA; rw [e]
theorem ltA_right {a b c : AtomD} (e : textD a = textD b) : ltA c a = ltA c b := by unfold ltA; rw [e]
theorem cmp_lt {a b : AtomD} : cmpD a b = -1 ↔ ltA a b = true := by
  unfold cmpD
  split
  · rename_i h; simp [h]
  · rename_i h
    split <;> simp [h]
theorem cmp_gt {a b : AtomD} : cmpD a b = 1 ↔ ltA b a = true := by
  unfold cmpD
  split
  · rename_i h; simp [ltA_asymm h]
  · split
    · rename_i h; simp [h]
    · rename_i h; simp [h]
theorem cmp_eq {a b : AtomD} : cmpD a b = 0 ↔ textD a = textD b := by
  unfold cmpD
  split
  · rename_i h
    constructor
    · intro k; cases k
    · intro e; exact absurd e (ltA_ne h)
  · rename_i h
    split
    · rename_i k
      constructor
      · intro k; cases k
      · intro e; exact absurd e.symm (ltA_ne k)
    · rename_i k
      exact ⟨fun _ => ltA_tri (by simpa using h) (by simpa using k), fun _ => rfl⟩
theorem cmp_neg (a b : AtomD) : cmpD a b = - cmpD b a := by
  unfold cmpD
  cases h : ltA a b with
  | true => rw [ltA_asymm h]; rfl
  | false => cases k : ltA b a <;> rfl
theorem cmp_cases (a b : AtomD) : cmpD a b = -1 ∨ cmpD a b = 0 ∨ cmpD a b = 1 := by
  unfold cmpD
  split
  · exact .inl rfl
  · split
    · exact .inr (.inr rfl)
    · exact .inr (.inl rfl)

/-- the first one of a text -/
def firstK (l : List AtomD) (k : ByteArray) : Option AtomD := l.find? (fun y => decide (textD y = k))
def hasK (l : List AtomD) (a : AtomD) : Bool := l.any (fun y => sameK y a)
theorem firstK_nil (k : ByteArray) : firstK [] k = none := rfl
theorem firstK_cons (a : AtomD) (l : List AtomD) (k : ByteArray) : firstK (a :: l) k = if textD a = k then some a else firstK l k := by
  unfold firstK
  rw [List.find?_cons]
  by_cases h : textD a = k <;> simp [h]
theorem firstK_app (l m : List AtomD) (k : ByteArray) : firstK (l ++ m) k = (firstK l k).or (firstK m k) := List.find?_append
theorem firstK_text {l : List AtomD} {k : ByteArray} {a : AtomD} (h : firstK l k = some a) : textD a = k := by
  have := List.find?_some h
  simpa using this
theorem firstK_mem {l : List AtomD} {k : ByteArray} {a : AtomD} (h : firstK l k = some a) : a ∈ l := List.mem_of_find?_eq_some h
theorem firstK_none {l : List AtomD} {k : ByteArray} : firstK l k = none ↔ ∀ y ∈ l, textD y ≠ k := by
  unfold firstK
  rw [List.find?_eq_none]
  simp
theorem firstK_some {l : List AtomD} {y : AtomD} (h : y ∈ l) : (firstK l (textD y)).isSome = true := by
  cases e : firstK l (textD y) with
  | some a => rfl
  | none => exact absurd rfl (firstK_none.1 e y h)
theorem hasK_iff {l : List AtomD} {a : AtomD} : hasK l a = true ↔ ∃ y ∈ l, textD y = textD a := by
  unfold hasK
  rw [List.any_eq_true]
  exact ⟨fun ⟨y, h, k⟩ => ⟨y, h, sameK_iff.1 k⟩, fun ⟨y, h, k⟩ => ⟨y, h, sameK_iff.2 k⟩⟩
theorem hasK_first {l : List AtomD} {a : AtomD} : hasK l a = (firstK l (textD a)).isSome := by
  rw [Bool.eq_iff_iff, hasK_iff]
  constructor
  · rintro ⟨y, h, e⟩
    rw [← e]; exact firstK_some h
  · intro h
    obtain ⟨y, hy⟩ := Option.isSome_iff_exists.1 h
    exact ⟨y, firstK_mem hy, firstK_text hy⟩
theorem hasK_congr {l m : List AtomD} (h : ∀ k, firstK l k = firstK m k) (a : AtomD) : hasK l a = hasK m a := by rw [hasK_first, hasK_first, h]
theorem asc_consA {a : AtomD} {l : List AtomD} : AscA (a :: l) ↔ (∀ x ∈ l, ltA a x = true) ∧ AscA l := by unfold AscA; exact List.pairwise_cons
theorem asc_nilA : AscA [] := List.Pairwise.nil
theorem asc_appA {l m : List AtomD} : AscA (l ++ m) ↔ AscA l ∧ AscA m ∧ ∀ a ∈ l, ∀ b ∈ m, ltA a b = true := by unfold AscA; exact List.pairwise_append
theorem asc_subA {l m : List AtomD} (h : AscA l) (hs : m.Sublist l) : AscA m := h.sublist hs
/-- in an ascending list each is the first one of its text -/
theorem first_asc : ∀ {l : List AtomD}, AscA l → ∀ {a : AtomD}, a ∈ l → firstK l (textD a) = some a
  | [], _, a, h => by simp at h
  | x :: l, hA, a, h => by
    obtain ⟨h1, h2⟩ := asc_consA.1 hA
    rw [firstK_cons]
    rcases List.mem_cons.1 h with rfl | h
    · rw [if_pos rfl]
    · rw [if_neg (ltA_ne (h1 a h)), first_asc h2 h]
theorem mem_asc {l : List AtomD} (h : AscA l) {a : AtomD} : a ∈ l ↔ firstK l (textD a) = some a := ⟨first_asc h, firstK_mem⟩
/-- ascending lists with the same elements are one -/
theorem asc_ext : ∀ {l m : List AtomD}, AscA l → AscA m → (∀ a, a ∈ l ↔ a ∈ m) → l = m
  | [], [], _, _, _ => rfl
  | [], y :: m, _, _, h => by have := (h y).2 (List.mem_cons_self ..); simp at this
  | x :: l, [], _, _, h => by have := (h x).1 (List.mem_cons_self ..); simp at this
  | x :: l, y :: m, hl, hm, h => by
    obtain ⟨l1, l2⟩ := asc_consA.1 hl
    obtain ⟨m1, m2⟩ := asc_consA.1 hm
    have e : x = y := by
      rcases List.mem_cons.1 ((h x).1 (List.mem_cons_self ..)) with e | hx
      · exact e
      · rcases List.mem_cons.1 ((h y).2 (List.mem_cons_self ..)) with e | hy
        · exact e.symm
        · have a1 := m1 x hx
          have a2 := l1 y hy
          rw [ltA_asymm a1] at a2; cases a2
    subst e
    congr 1
    refine asc_ext l2 m2 fun a => ⟨fun ha => ?_, fun ha => ?_⟩
    · rcases List.mem_cons.1 ((h a).1 (List.mem_cons_of_mem _ ha)) with rfl | k
      · have := l1 a ha; rw [ltA_irr] at this; cases this
      · exact k
    · rcases List.mem_cons.1 ((h a).2 (List.mem_cons_of_mem _ ha)) with rfl | k
      · have := m1 a ha; rw [ltA_irr] at this; cases this
      · exact k
/-- an ascending list is told by the first one of each text -/
theorem asc_first {l m : List AtomD} (hl : AscA l) (hm : AscA m) (h : ∀ k, firstK l k = firstK m k) : l = m :=
  asc_ext hl hm fun a => by rw [mem_asc hl, mem_asc hm, h]

/-- an element put into its place, unless its text is there -/
def insK : List AtomD → AtomD → List AtomD
  | [], a => [a]
  | x :: l, a => if ltA a x then a :: x :: l else if ltA x a then x :: insK l a else x :: l
theorem insK_mem : ∀ {l : List AtomD} {a x : AtomD}, x ∈ insK l a → x = a ∨ x ∈ l
  | [], a, x, h => by simp [insK] at h; exact .inl h
  | y :: l, a, x, h => by
    unfold insK at h
    split at h
    · simpa using h
    · split at h
      · rcases List.mem_cons.1 h with rfl | h
        · exact .inr (List.mem_cons_self ..)
        · exact (insK_mem h).imp id (List.mem_cons_of_mem _)
      · exact .inr h
theorem insK_asc : ∀ {l : List AtomD} {a : AtomD}, AscA l → AscA (insK l a)
  | [], a, _ => asc_consA.2 ⟨by simp, asc_nilA⟩
  | x :: l, a, h => by
    obtain ⟨h1, h2⟩ := asc_consA.1 h
    unfold insK
    split
    · rename_i k
      refine asc_consA.2 ⟨fun y hy => ?_, h⟩
      rcases List.mem_cons.1 hy with rfl | hy
      · exact k
      · exact ltA_trans k (h1 y hy)
    · split
      · rename_i k
        refine asc_consA.2 ⟨fun y hy => ?_, insK_asc h2⟩
        rcases insK_mem hy with rfl | hy
        · exact k
        · exact h1 y hy
      · exact h
theorem insK_first : ∀ {l : List AtomD} {a : AtomD}, AscA l → ∀ k, firstK (insK l a) k = (firstK l k).or (firstK [a] k)
  | [], a, _, k => rfl
  | x :: l, a, h, k => by
    obtain ⟨h1, h2⟩ := asc_consA.1 h
    unfold insK
    split
    · rename_i q
      rw [firstK_cons, firstK_cons a []]
      by_cases e : textD a = k
      · have hn : firstK (x :: l) k = none := firstK_none.2 (fun y hy => by
          rcases List.mem_cons.1 hy with rfl | hy
          · intro e2; exact ltA_ne q (e.trans e2.symm)
          · intro e2; exact ltA_ne (ltA_trans q (h1 y hy)) (e.trans e2.symm))
        rw [if_pos e, hn, if_pos e]; rfl
      · rw [if_neg e, if_neg e, firstK_nil, Option.or_none]
    · rename_i q
      split
      · rw [firstK_cons, firstK_cons x l, insK_first h2 k]
        split <;> rfl
      · rename_i q2
        have e0 : textD a = textD x := ltA_tri (by simpa using q) (by simpa using q2)
        rw [firstK_cons x l, firstK_cons a []]
        by_cases e : textD x = k
        · rw [if_pos e]; rfl
        · rw [if_neg e, if_neg (by rw [e0]; exact e), firstK_nil, Option.or_none]
def sortedD (l : List AtomD) : List AtomD := l.foldl insK []
theorem fold_asc : ∀ (l s : List AtomD), AscA s → AscA (l.foldl insK s)
  | [], _, h => h
  | a :: l, s, h => fold_asc l (insK s a) (insK_asc h)
theorem fold_first : ∀ (l s : List AtomD), AscA s → ∀ k, firstK (l.foldl insK s) k = (firstK s k).or (firstK l k)
  | [], s, _, k => by rw [List.foldl_nil, firstK_nil, Option.or_none]
  | a :: l, s, h, k => by
    rw [List.foldl_cons, fold_first l _ (insK_asc h) k, insK_first h k, firstK_cons a l, firstK_cons a [], firstK_nil]
    cases firstK s k with
    | some x => rfl
    | none =>
      by_cases e : textD a = k
      · rw [if_pos e, if_pos e]; rfl
      · rw [if_neg e, if_neg e]; rfl
theorem sorted_ascA (l : List AtomD) : AscA (sortedD l) := fold_asc l [] asc_nilA
theorem sorted_first (l : List AtomD) (k : ByteArray) : firstK (sortedD l) k = firstK l k := by
  unfold sortedD
  rw [fold_first l [] asc_nilA k]; rfl
/-- WHAT IS SORTED: ascending, and of each text the first one -/
theorem sorted_eq {l s : List AtomD} (h : AscA s) (hf : ∀ k, firstK s k = firstK l k) : s = sortedD l := asc_first h (sorted_ascA l) (fun k => by rw [hf, sorted_first])
theorem sorted_id {l : List AtomD} (h : AscA l) : sortedD l = l := (sorted_eq h (fun _ => rfl)).symm
theorem sorted_congr {l m : List AtomD} (h : ∀ k, firstK l k = firstK m k) : sortedD l = sortedD m := sorted_eq (sorted_ascA l) (fun k => by rw [sorted_first, h])
theorem sorted_hasK (l : List AtomD) (a : AtomD) : hasK (sortedD l) a = hasK l a := hasK_congr (sorted_first l) a
theorem sorted_memA {l : List AtomD} {a : AtomD} (h : a ∈ sortedD l) : a ∈ l := by
  have := (mem_asc (sorted_ascA l)).1 h
  rw [sorted_first] at this
  exact firstK_mem this
theorem insK_len : ∀ (l : List AtomD) (a : AtomD), (insK l a).length ≤ l.length + 1
  | [], a => by simp [insK]
  | x :: l, a => by
    unfold insK
    split
    · simp
    · split
      · have := insK_len l a; simp; omega
      · simp
theorem sorted_lenA (l : List AtomD) : (sortedD l).length ≤ l.length := by
  have key : ∀ (l s : List AtomD), (l.foldl insK s).length ≤ s.length + l.length := by
    intro l
    induction l with
    | nil => intro s; simp
    | cons a l ih =>
      intro s
      have h1 := ih (insK s a)
      have h2 := insK_len s a
      rw [List.foldl_cons, List.length_cons]; omega
  have := key l []
  simpa [sortedD] using this
/-- a text that is gone: what is kept of an ascending list -/
theorem filter_first {l : List AtomD} (p : AtomD → Bool) (hp : ∀ a b, textD a = textD b → p a = p b) (k : ByteArray) : firstK (l.filter p) k = (firstK l k).filter p := by
  induction l with
  | nil => rfl
  | cons x l ih =>
    rw [List.filter_cons, firstK_cons]
    by_cases e : textD x = k
    · rw [if_pos e]
      cases hx : p x with
      | true => rw [if_pos rfl, firstK_cons, if_pos e]; simp [Option.filter, hx]
      | false =>
        rw [if_neg (by decide), ih]
        have hn : (firstK l k).filter p = none := by
          cases hf : firstK l k with
          | none => rfl
          | some y => simp [Option.filter, hp y x (by rw [firstK_text hf, e]), hx]
        rw [hn]; simp [Option.filter, hx]
    · rw [if_neg e]
      cases hx : p x with
      | true => rw [if_pos rfl, firstK_cons, if_neg e, ih]
      | false => rw [if_neg (by decide), ih]
def minusD (l m : List AtomD) : List AtomD := (sortedD l).filter (fun a => !hasK m a)
theorem hasK_text {m : List AtomD} {a b : AtomD} (e : textD a = textD b) : hasK m a = hasK m b := by rw [hasK_first, hasK_first, e]
theorem minus_asc (l m : List AtomD) : AscA (minusD l m) := asc_subA (sorted_ascA l) List.filter_sublist
theorem minus_first (l m : List AtomD) (k : ByteArray) : firstK (minusD l m) k = (firstK l k).filter (fun a => !hasK m a) := by
  unfold minusD
  rw [filter_first _ (fun a b e => by rw [hasK_text e]) k, sorted_first]
theorem minus_has (l m : List AtomD) (a : AtomD) : hasK (minusD l m) a = (hasK l a && !hasK m a) := by
  rw [hasK_first, minus_first, hasK_first (l := l)]
  cases hf : firstK l (textD a) with
  | none => rfl
  | some y => simp [Option.filter, hasK_text (m := m) (firstK_text hf)]; cases hasK m a <;> rfl
/-- merging two ascending lists, of one text the left one's -/
def mergeD : List AtomD → List AtomD → List AtomD
  | [], m => m
  | l, [] => l
  | a :: l, b :: m => if ltA a b then a :: mergeD l (b :: m) else if ltA b a then b :: mergeD (a :: l) m else mergeD (a :: l) m
termination_by l m => l.length + m.length
theorem merge_nilL (m : List AtomD) : mergeD [] m = m := by rw [mergeD]
theorem merge_nilR : ∀ l : List AtomD, mergeD l [] = l
  | [] => by rw [mergeD]
  | a :: l => by rw [mergeD]; simp
theorem merge_cons (a : AtomD) (l : List AtomD) (b : AtomD) (m : List AtomD) : mergeD (a :: l) (b :: m) = if ltA a b then a :: mergeD l (b :: m) else if ltA b a then b :: mergeD (a :: l) m else mergeD (a :: l) m := by rw [mergeD]
theorem merge_mem : ∀ {l m : List AtomD} {x : AtomD}, x ∈ mergeD l m → x ∈ l ∨ x ∈ m
  | [], m, x, h => by rw [merge_nilL] at h; exact .inr h
  | a :: l, [], x, h => by rw [merge_nilR] at h; exact .inl h
  | a :: l, b :: m, x, h => by
    rw [merge_cons] at h
    split at h
    · rcases List.mem_cons.1 h with rfl | h
      · exact .inl (List.mem_cons_self ..)
      · exact (merge_mem h).imp (List.mem_cons_of_mem _) id
    · split at h
      · rcases List.mem_cons.1 h with rfl | h
        · exact .inr (List.mem_cons_self ..)
        · exact (merge_mem h).imp id (List.mem_cons_of_mem _)
      · exact (merge_mem h).imp id (List.mem_cons_of_mem _)
termination_by l m => l.length + m.length
theorem merge_asc : ∀ {l m : List AtomD}, AscA l → AscA m → AscA (mergeD l m)
  | [], m, _, hm => by rw [merge_nilL]; exact hm
  | a :: l, [], hl, _ => by rw [merge_nilR]; exact hl
  | a :: l, b :: m, hl, hm => by
    obtain ⟨l1, l2⟩ := asc_consA.1 hl
    obtain ⟨m1, m2⟩ := asc_consA.1 hm
    rw [merge_cons]
    split
    · rename_i q
      refine asc_consA.2 ⟨fun x hx => ?_, merge_asc l2 hm⟩
      rcases merge_mem hx with hx | hx
      · exact l1 x hx
      · rcases List.mem_cons.1 hx with rfl | hx
        · exact q
        · exact ltA_trans q (m1 x hx)
    · split
      · rename_i q
        refine asc_consA.2 ⟨fun x hx => ?_, merge_asc hl m2⟩
        rcases merge_mem hx with hx | hx
        · rcases List.mem_cons.1 hx with rfl | hx
          · exact q
          · exact ltA_trans q (l1 x hx)
        · exact m1 x hx
      · exact merge_asc hl m2
termination_by l m => l.length + m.length
theorem merge_first : ∀ {l m : List AtomD}, AscA l → AscA m → ∀ k, firstK (mergeD l m) k = (firstK l k).or (firstK m k)
  | [], m, _, _, k => by rw [merge_nilL]; rfl
  | a :: l, [], _, _, k => by rw [merge_nilR, firstK_nil, Option.or_none]
  | a :: l, b :: m, hl, hm, k => by
    obtain ⟨l1, l2⟩ := asc_consA.1 hl
    obtain ⟨m1, m2⟩ := asc_consA.1 hm
    rw [merge_cons]
    split
    · rw [firstK_cons, merge_first l2 hm k, firstK_cons a l]
      split <;> rfl
    · split
      · rename_i q
        rw [firstK_cons, merge_first hl m2 k, firstK_cons b m]
        by_cases e : textD b = k
        · have hn : firstK (a :: l) k = none := firstK_none.2 (fun y hy => by
            rcases List.mem_cons.1 hy with rfl | hy
            · intro e2; exact ltA_ne q (e.trans e2.symm)
            · intro e2; exact ltA_ne (ltA_trans q (l1 y hy)) (e.trans e2.symm))
          rw [if_pos e, if_pos e, hn]; rfl
        · rw [if_neg e, if_neg e]
      · rename_i q1 q2
        have e0 : textD a = textD b := ltA_tri (by simpa using q1) (by simpa using q2)
        rw [merge_first hl m2 k, firstK_cons b m, firstK_cons a l]
        by_cases e : textD a = k
        · rw [if_pos e]; rfl
        · rw [if_neg e, if_neg (by rw [← e0]; exact e)]
termination_by l m => l.length + m.length
/-- sorted by halves -/
theorem sorted_halves (l : List AtomD) (h : Nat) : mergeD (sortedD (l.take h)) (sortedD (l.drop h)) = sortedD l := by
  refine sorted_eq (merge_asc (sorted_ascA _) (sorted_ascA _)) fun k => ?_
  rw [merge_first (sorted_ascA _) (sorted_ascA _), sorted_first, sorted_first, ← firstK_app, List.take_append_drop]
theorem sorted_app (l m : List AtomD) : mergeD (sortedD l) (sortedD m) = sortedD (l ++ m) := by
  refine sorted_eq (merge_asc (sorted_ascA _) (sorted_ascA _)) fun k => ?_
  rw [merge_first (sorted_ascA _) (sorted_ascA _), sorted_first, sorted_first, ← firstK_app]
/-- adding one -/
def addD (l : List AtomD) (a : AtomD) : List AtomD := sortedD (l ++ [a])
theorem add_sorted (l : List AtomD) (a : AtomD) : sortedD (sortedD l ++ [a]) = addD l a := sorted_congr (fun k => by rw [firstK_app, firstK_app, sorted_first])
theorem add_there {l : List AtomD} {a : AtomD} (h : hasK l a = true) : addD l a = sortedD l := sorted_congr (fun k => by
  rw [firstK_app]
  cases e : firstK l k with
  | some x => rfl
  | none =>
    rw [firstK_cons, firstK_nil]
    by_cases e2 : textD a = k
    · obtain ⟨y, hy, e3⟩ := hasK_iff.1 h
      exact absurd (e3.trans e2) (firstK_none.1 e y hy)
    · rw [if_neg e2]; rfl)
theorem add_ins (l : List AtomD) (a : AtomD) : insK (sortedD l) a = addD l a := sorted_eq (insK_asc (sorted_ascA l)) (fun k => by rw [insK_first (sorted_ascA l), sorted_first, firstK_app])
def removeD (l : List AtomD) (a : AtomD) : List AtomD := minusD l [a]

/-- lists of atoms with no two of one text: told by their elements -/
def OneText (l : List AtomD) : Prop := ∀ a ∈ l, ∀ b ∈ l, textD a = textD b → a = b
theorem one_first {l : List AtomD} (h : OneText l) {a : AtomD} (ha : a ∈ l) : firstK l (textD a) = some a := by
  cases e : firstK l (textD a) with
  | some x => rw [h x (firstK_mem e) a ha (firstK_text e)]
  | none => exact absurd rfl (firstK_none.1 e a ha)
theorem one_valid {l : List AtomD} (h : ∀ a ∈ l, checkD a = 0) : OneText l := fun a ha b hb e => text_inj (h a ha) (h b hb) e
theorem one_congr {l m : List AtomD} (h : OneText l) (k : OneText m) (e : ∀ a, a ∈ l ↔ a ∈ m) : ∀ t, firstK l t = firstK m t := fun t => by
  cases q : firstK l t with
  | some x =>
    have h1 := firstK_text q
    have h2 := one_first k ((e x).1 (firstK_mem q))
    rw [h1] at h2; exact h2.symm
  | none =>
    refine (firstK_none.2 fun y hy => ?_).symm
    exact firstK_none.1 q y ((e y).2 hy)
theorem sorted_same {l m : List AtomD} (h : OneText l) (k : OneText m) (e : ∀ a, a ∈ l ↔ a ∈ m) : sortedD l = sortedD m := sorted_congr (one_congr h k e)
theorem sorted_mem {l : List AtomD} (h : OneText l) {a : AtomD} : a ∈ sortedD l ↔ a ∈ l := ⟨sorted_memA, fun ha => (mem_asc (sorted_ascA l)).2 (by rw [sorted_first]; exact one_first h ha)⟩
theorem one_sub {l m : List AtomD} (h : OneText l) (hs : ∀ a ∈ m, a ∈ l) : OneText m := fun a ha b hb e => h a (hs a ha) b (hs b hb) e
end Go.Proofs.Ytamghlneoglfnaa
