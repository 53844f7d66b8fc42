/-
  Sorting by texts: entries (a text and its place), of each text the first one kept. No condition.
-/
import Derived.Test.YtamghlneoglfnaaOrQ
import Derived.Shelf.SlSortCmp.WholeK
namespace Go.Proofs.Ytamghlneoglfnaa
open Go.RowKit Go.Sort

abbrev EntD := ByteArray × Nat
def encE (x : EntD) : List Value := [.string x.1, .int .i64 x.2]
/-- an entry is less than another one -/
def ltE (x y : EntD) : Bool := ltS x.1 y.1 || (decide (x.1 = y.1) && decide (x.2 < y.2))
/-- how an entry stands to another one -/
def cfE (x y : EntD) : Int := if cmpS x.1 y.1 = 0 then Lib.compareInt x.2 y.2 else cmpS x.1 y.1
theorem cf_ltE (x y : EntD) : ltOf cfE x y = ltE x y := by
  unfold ltOf cfE ltE Lib.compareInt
  by_cases e : x.1 = y.1
  · rw [if_pos (cmpS_eq.2 e), e, ltS_irr]
    by_cases h1 : x.2 < y.2
    · have : ((x.2 : Nat) : Int) < y.2 := by omega
      simp [h1, this]
    · have n1 : ¬ ((x.2 : Nat) : Int) < y.2 := by omega
      simp only [n1, h1, if_false, decide_false, Bool.and_false, Bool.or_false]
      split <;> simp
  · rw [if_neg (fun h => e (cmpS_eq.1 h))]
    cases h : ltS x.1 y.1 with
    | true => simp [cmpS_lt.2 h]
    | false =>
      have : ¬ cmpS x.1 y.1 < 0 := fun k => by rw [cmpS_lt.1 k] at h; cases h
      simp [this, e]
theorem ltE_text {x y : EntD} (h : ltE x y = false) : ltS x.1 y.1 = false := by
  unfold ltE at h
  exact (Bool.or_eq_false_iff.1 h).1
theorem ltE_place {x y : EntD} (h : ltE x y = false) (e : x.1 = y.1) : y.2 ≤ x.2 := by
  unfold ltE at h
  have := (Bool.or_eq_false_iff.1 h).2
  simp [e] at this
  exact this
theorem ltE_irr (x : EntD) : ltE x x = false := by simp [ltE, ltS_irr]
theorem ltE_of {x y : EntD} (h1 : ltS x.1 y.1 = false) (h2 : x.1 = y.1 → y.2 ≤ x.2) : ltE x y = false := by
  unfold ltE
  rw [h1, Bool.false_or]
  by_cases e : x.1 = y.1
  · have := h2 e
    simp [e]; omega
  · simp [e]
theorem sS_not {a b c : ByteArray} (h : ltS a b = false) (k : ltS b c = false) : ltS a c = false := by
  cases q : ltS a c with
  | false => rfl
  | true =>
    have := ltS_lt_ge q k
    rw [this] at h; cases h
theorem swoE : SWO (ltOf cfE) where
  irrefl x := by rw [cf_ltE]; exact ltE_irr x
  trans x y z h1 h2 := by
    rw [cf_ltE] at *
    unfold ltE at *
    simp only [Bool.or_eq_true, Bool.and_eq_true, decide_eq_true_eq] at *
    rcases h1 with h1 | ⟨e1, h1⟩
    · rcases h2 with h2 | ⟨e2, h2⟩
      · exact .inl (ltS_trans h1 h2)
      · exact .inl (by rw [← e2]; exact h1)
    · rcases h2 with h2 | ⟨e2, h2⟩
      · exact .inl (by rw [e1]; exact h2)
      · exact .inr ⟨e1.trans e2, by omega⟩
  ntrans x y z h1 h2 := by
    rw [cf_ltE] at *
    refine ltE_of (sS_not (ltE_text h1) (ltE_text h2)) fun e => ?_
    have e1 : x.1 = y.1 := by
      have a1 := ltE_text h1
      have a2 := ltE_text h2
      rw [← e] at a2
      exact ltS_tri a1 a2
    have := ltE_place h1 e1
    have := ltE_place h2 (e1.symm.trans e)
    omega

/-- the entries of a list -/
def entsD (l : List AtomD) : List EntD := l.zipIdx.map (fun p => (textD p.1, p.2))
theorem ents_len (l : List AtomD) : (entsD l).length = l.length := by simp [entsD]
theorem ents_get (l : List AtomD) (i : Nat) (h : i < l.length) : (entsD l)[i]'(by rw [ents_len]; exact h) = (textD l[i], i) := by simp [entsD]
theorem ents_mem {l : List AtomD} {e : EntD} (h : e ∈ entsD l) : ∃ (k : e.2 < l.length), textD l[e.2] = e.1 := by
  obtain ⟨i, hi, rfl⟩ := List.getElem_of_mem h
  rw [ents_len] at hi
  rw [ents_get l i hi]
  exact ⟨hi, rfl⟩
theorem mem_ents {l : List AtomD} {i : Nat} (h : i < l.length) : (textD l[i], i) ∈ entsD l := by
  rw [← ents_get l i h]
  exact List.getElem_mem _

/-- of each run of one text the first one -/
def compGo : ByteArray → List EntD → List EntD
  | _, [] => []
  | t, y :: l => if y.1 = t then compGo t l else y :: compGo y.1 l
def compE : List EntD → List EntD
  | [] => []
  | x :: l => x :: compGo x.1 l
def lastT : ByteArray → List EntD → ByteArray
  | t, [] => t
  | _, x :: l => lastT x.1 l
theorem compGo_snoc : ∀ (l : List EntD) (t : ByteArray) (y : EntD), compGo t (l ++ [y]) = compGo t l ++ (if y.1 = lastT t l then [] else [y])
  | [], t, y => by by_cases e : y.1 = t <;> simp [compGo, lastT, e]
  | x :: l, t, y => by
    rw [List.cons_append, compGo, compGo, lastT]
    by_cases e : x.1 = t
    · rw [if_pos e, if_pos e, compGo_snoc l t y, e]
    · rw [if_neg e, if_neg e, compGo_snoc l x.1 y, List.cons_append]
theorem lastT_take : ∀ (l : List EntD) (x : EntD) (m : Nat) (h : m < (x :: l).length), lastT x.1 (l.take m) = ((x :: l)[m]).1
  | l, x, 0, _ => by simp [lastT]
  | [], x, m + 1, h => by simp at h
  | y :: l, x, m + 1, h => by
    rw [List.take_succ_cons, lastT, lastT_take l y m (by simpa using h)]
    simp
theorem compE_one (d : List EntD) (h : 0 < d.length) : compE (d.take 1) = [d[0]] := by
  cases d with
  | nil => simp at h
  | cons x l => simp [compE, compGo]
theorem compE_step (d : List EntD) (m : Nat) (h : m + 1 < d.length) : compE (d.take (m + 2)) = compE (d.take (m + 1)) ++ if d[m + 1].1 = d[m].1 then [] else [d[m + 1]] := by
  cases d with
  | nil => simp at h
  | cons x l =>
    have hm : m < l.length := by simpa using h
    rw [List.take_succ_cons, List.take_succ_cons, compE, compE, List.take_add_one, List.getElem?_eq_getElem hm, Option.toList_some, compGo_snoc, lastT_take l x m (by simp; omega), List.cons_append]
    rfl
theorem compE_same {d : List EntD} {m : Nat} (h : m + 1 < d.length) (e : (d[m + 1].1 == d[m].1) = true) : compE (d.take (m + 2)) = compE (d.take (m + 1)) := by
  rw [compE_step d m h, if_pos ((ba_eq _ _).1 e), List.append_nil]
theorem compE_next {d : List EntD} {m : Nat} (h : m + 1 < d.length) (e : (d[m + 1].1 == d[m].1) = false) : compE (d.take (m + 2)) = compE (d.take (m + 1)) ++ [d[m + 1]] := by
  rw [compE_step d m h, if_neg (fun k => by rw [(ba_eq _ _).2 k] at e; cases e)]
theorem compGo_mem : ∀ {l : List EntD} {t : ByteArray} {e : EntD}, e ∈ compGo t l → e ∈ l
  | [], _, _, h => by simp [compGo] at h
  | x :: l, t, e, h => by
    rw [compGo] at h
    split at h
    · exact List.mem_cons_of_mem _ (compGo_mem h)
    · rcases List.mem_cons.1 h with rfl | h
      · exact List.mem_cons_self ..
      · exact List.mem_cons_of_mem _ (compGo_mem h)
theorem compGo_asc : ∀ {l : List EntD} {t : ByteArray}, l.Pairwise (fun x y => ltE y x = false) → (∀ y ∈ l, ltS y.1 t = false) → (compGo t l).Pairwise (fun x y => ltS x.1 y.1 = true) ∧ ∀ e ∈ compGo t l, ltS t e.1 = true
  | [], t, _, _ => by simp [compGo]
  | x :: l, t, hp, hl => by
    obtain ⟨p1, p2⟩ := List.pairwise_cons.1 hp
    rw [compGo]
    split
    · exact compGo_asc p2 (fun y hy => hl y (List.mem_cons_of_mem _ hy))
    · rename_i hne
      have hx := hl x (List.mem_cons_self ..)
      have hlt : ltS t x.1 = true := by
        cases q : ltS t x.1 with
        | true => rfl
        | false => exact absurd (ltS_tri hx q) hne
      obtain ⟨a1, a2⟩ := compGo_asc (t := x.1) p2 (fun y hy => ltE_text (p1 y hy))
      refine ⟨List.pairwise_cons.2 ⟨a2, a1⟩, fun e he => ?_⟩
      rcases List.mem_cons.1 he with rfl | he
      · exact hlt
      · exact ltS_trans hlt (a2 e he)
theorem compGo_least : ∀ {l : List EntD} {t : ByteArray}, l.Pairwise (fun x y => ltE y x = false) → (∀ y ∈ l, ltS y.1 t = false) → ∀ e ∈ compGo t l, ∀ y ∈ l, y.1 = e.1 → ltE y e = false
  | [], t, _, _, e, he => by simp [compGo] at he
  | x :: l, t, hp, hl, e, he => by
    obtain ⟨p1, p2⟩ := List.pairwise_cons.1 hp
    intro y hy hye
    have hA := (compGo_asc hp hl).2 e he
    rw [compGo] at he
    split at he
    · rename_i e0
      rcases List.mem_cons.1 hy with rfl | hy
      · rw [← e0, hye, ltS_irr] at hA; cases hA
      · exact compGo_least p2 (fun y hy => hl y (List.mem_cons_of_mem _ hy)) e he y hy hye
    · rcases List.mem_cons.1 he with rfl | he
      · rcases List.mem_cons.1 hy with rfl | hy
        · exact ltE_irr _
        · exact p1 y hy
      · have hA2 := (compGo_asc (t := x.1) p2 (fun y hy => ltE_text (p1 y hy))).2 e he
        rcases List.mem_cons.1 hy with rfl | hy
        · rw [hye, ltS_irr] at hA2; cases hA2
        · exact compGo_least p2 (fun y hy => ltE_text (p1 y hy)) e he y hy hye
theorem compGo_cover : ∀ {l : List EntD} {t : ByteArray} {y : EntD}, y ∈ l → y.1 ≠ t → ∃ e ∈ compGo t l, e.1 = y.1
  | [], _, _, h, _ => by simp at h
  | x :: l, t, y, h, hne => by
    rw [compGo]
    split
    · rename_i e0
      rcases List.mem_cons.1 h with rfl | h
      · exact absurd e0 hne
      · exact compGo_cover h hne
    · rcases List.mem_cons.1 h with rfl | h
      · exact ⟨_, List.mem_cons_self .., rfl⟩
      · by_cases e : y.1 = x.1
        · exact ⟨x, List.mem_cons_self .., e.symm⟩
        · obtain ⟨z, hz, ez⟩ := compGo_cover h e
          exact ⟨z, List.mem_cons_of_mem _ hz, ez⟩
theorem compE_mem {d : List EntD} {e : EntD} (h : e ∈ compE d) : e ∈ d := by
  cases d with
  | nil => simp [compE] at h
  | cons x l =>
    rw [compE] at h
    rcases List.mem_cons.1 h with rfl | h
    · exact List.mem_cons_self ..
    · exact List.mem_cons_of_mem _ (compGo_mem h)
theorem compE_asc {d : List EntD} (hp : d.Pairwise (fun x y => ltE y x = false)) : (compE d).Pairwise (fun x y => ltS x.1 y.1 = true) := by
  cases d with
  | nil => simp [compE]
  | cons x l =>
    obtain ⟨p1, p2⟩ := List.pairwise_cons.1 hp
    obtain ⟨a1, a2⟩ := compGo_asc (t := x.1) p2 (fun y hy => ltE_text (p1 y hy))
    rw [compE]
    exact List.pairwise_cons.2 ⟨a2, a1⟩
theorem compE_least {d : List EntD} (hp : d.Pairwise (fun x y => ltE y x = false)) {e y : EntD} (he : e ∈ compE d) (hy : y ∈ d) (hye : y.1 = e.1) : ltE y e = false := by
  cases d with
  | nil => simp at hy
  | cons x l =>
    obtain ⟨p1, p2⟩ := List.pairwise_cons.1 hp
    rw [compE] at he
    rcases List.mem_cons.1 he with rfl | he
    · rcases List.mem_cons.1 hy with rfl | hy
      · exact ltE_irr _
      · exact p1 y hy
    · have hA2 := (compGo_asc (t := x.1) p2 (fun y hy => ltE_text (p1 y hy))).2 e he
      rcases List.mem_cons.1 hy with rfl | hy
      · rw [hye, ltS_irr] at hA2; cases hA2
      · exact compGo_least p2 (fun y hy => ltE_text (p1 y hy)) e he y hy hye
theorem compE_cover {d : List EntD} {y : EntD} (hy : y ∈ d) : ∃ e ∈ compE d, e.1 = y.1 := by
  cases d with
  | nil => simp at hy
  | cons x l =>
    rw [compE]
    by_cases e : y.1 = x.1
    · exact ⟨x, List.mem_cons_self .., e.symm⟩
    · rcases List.mem_cons.1 hy with rfl | hy
      · exact absurd rfl e
      · obtain ⟨z, hz, ez⟩ := compGo_cover hy e
        exact ⟨z, List.mem_cons_of_mem _ hz, ez⟩
theorem compE_le : ∀ d : List EntD, (compE d).length ≤ d.length := by
  have key : ∀ (l : List EntD) (t : ByteArray), (compGo t l).length ≤ l.length := by
    intro l
    induction l with
    | nil => intro t; simp [compGo]
    | cons x l ih =>
      intro t
      rw [compGo]
      split
      · have := ih t; simp; omega
      · have := ih x.1; simp; omega
  intro d
  cases d with
  | nil => simp [compE]
  | cons x l => have := key l x.1; simp [compE]; omega

/-- the atoms of entries -/
def backD (l : List AtomD) (d : List EntD) : List AtomD := d.map (fun e => l.getD e.2 atomZ)
/-- WHAT IS SORTED BY ENTRIES -/
theorem sort_by {l : List AtomD} {d : List EntD} (hp : d.Perm (entsD l)) (hs : d.Pairwise (fun x y => ltE y x = false)) : backD l (compE d) = sortedD l := by
  have hat : ∀ e ∈ compE d, ∃ h : e.2 < l.length, l.getD e.2 atomZ = l[e.2] ∧ textD l[e.2] = e.1 := fun e he => by
    obtain ⟨h, k⟩ := ents_mem (hp.mem_iff.1 (compE_mem he))
    exact ⟨h, getD_at h, k⟩
  have hA : AscA (backD l (compE d)) := by
    unfold AscA backD
    rw [List.pairwise_map]
    refine (compE_asc hs).imp_of_mem fun {a b} ha hb h => ?_
    obtain ⟨_, e1, e2⟩ := hat a ha
    obtain ⟨_, f1, f2⟩ := hat b hb
    unfold ltA
    rw [e1, f1, e2, f2]
    exact h
  have hsub : ∀ y ∈ backD l (compE d), y ∈ l := fun y hy => by
    obtain ⟨e, he, rfl⟩ := List.mem_map.1 hy
    obtain ⟨h, e1, _⟩ := hat e he
    rw [e1]
    exact List.getElem_mem h
  refine sorted_eq hA fun k => ?_
  cases q : firstK l k with
  | none => exact firstK_none.2 (fun y hy => firstK_none.1 q y (hsub y hy))
  | some a =>
    have hk := firstK_text q
    unfold firstK at q
    obtain ⟨_, i, hi, e1, e2⟩ := List.find?_eq_some_iff_getElem.1 q
    have hmem : (k, i) ∈ d := hp.mem_iff.2 (by have := mem_ents hi; rw [e1, hk] at this; exact this)
    obtain ⟨e, he, ek⟩ := compE_cover hmem
    have hle := ltE_place (compE_least hs he hmem ek.symm) ek.symm
    obtain ⟨h, f1, f2⟩ := hat e he
    have hie : e.2 = i := by
      rcases Nat.lt_or_ge e.2 i with hlt | hge
      · have := e2 e.2 hlt
        simp [f2, ek] at this
      · simp at hle; omega
    have : a ∈ backD l (compE d) := by
      refine List.mem_map.2 ⟨e, he, ?_⟩
      show l.getD e.2 atomZ = a
      rw [f1, ← e1]
      simp only [hie]
    rw [← hk]
    exact first_asc hA this
end Go.Proofs.Ytamghlneoglfnaa
