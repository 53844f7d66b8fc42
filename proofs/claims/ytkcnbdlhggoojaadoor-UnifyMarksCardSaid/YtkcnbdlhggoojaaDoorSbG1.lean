/-
  An atom whose variables are bound to constants, all of them or all but one. No condition.
-/
import Derived.Test.YtkcnbdlhggoojaaDoorSbP1
namespace Go.Proofs.YtkcnbdlhggoojaaDoor
open Go.RowKit

theorem names_once4 (v : Bool) (l : List TermD) : (namesD v l).Pairwise (fun x y => x ≠ y) := by
  unfold namesD
  suffices h : ∀ (l : List TermD) (x : List ByteArray), x.Pairwise (fun x y => x ≠ y) → (l.foldl (stepN v) x).Pairwise (fun x y => x ≠ y) from h l [] List.Pairwise.nil
  intro l
  induction l with
  | nil => intro x hx; exact hx
  | cons t l ih =>
    intro x hx
    refine ih _ ?_
    unfold stepN
    split
    · rename_i h
      simp only [Bool.and_eq_true, Bool.not_eq_true'] at h
      refine List.pairwise_append.2 ⟨hx, List.pairwise_singleton _ _, fun y hy z hz => ?_⟩
      obtain rfl := List.mem_singleton.1 hz
      intro e
      subst e
      rw [hasS_true hy] at h
      cases h.2
    · exact hx
/-- constants for the first k of the variables, and for nothing else -/
structure GInv (vs : List ByteArray) (k : Nat) (l : List BindD) : Prop where
  ok : checkB l = true
  len : l.length = k
  has : ∀ j (h : j < vs.length), j < k → (getB l vs[j]).isSome = true
  cst : ∀ s t, getB l s = some t → t.v = false ∧ termB t = true ∧ s ∈ vs.take k
  sz : ∀ s t, getB l s = some t → t.name.size ≤ 9223372036854775807
theorem ginv_zero (vs : List ByteArray) : GInv vs 0 [] := ⟨by decide, rfl, fun j _ h => by omega, fun s t h => by simp [getB] at h, fun s t h => by simp [getB] at h⟩
theorem termB_ne {t : TermD} (h : termB t = true) (he : ∀ v, termB ⟨v, emp⟩ = false) : t.name ≠ emp := fun e => by
  obtain ⟨v, s⟩ := t
  simp only at e
  subst e
  rw [he] at h; cases h
theorem ginv_step {vs : List ByteArray} {k : Nat} {l : List BindD} {c : ByteArray} (hd : vs.Pairwise (fun x y => x ≠ y)) (hk : k < vs.length) (G : GInv vs k l) (hc : termB ⟨false, c⟩ = true) (hce : c ≠ emp) (hve : vs[k] ≠ emp) (hcz : c.size ≤ 9223372036854775807) :
    ∃ m, bindD l vs[k] ⟨false, c⟩ = (m, 0) ∧ GInv vs (k + 1) m := by
  have hs : subT l ⟨false, c⟩ = ⟨false, c⟩ := rfl
  have hno : getB l vs[k] = none := by
    cases e : getB l vs[k] with
    | none => rfl
    | some t =>
      have h1 := (G.cst _ _ e).2.2
      obtain ⟨j, hj, e2⟩ := List.getElem_of_mem h1
      rw [List.getElem_take] at e2
      have hjk : j < k := by rw [List.length_take] at hj; omega
      exact absurd e2 (List.pairwise_iff_getElem.1 hd j k (by omega) hk hjk)
  have hb := bind_ok (l := l) (v := vs[k]) (t := ⟨false, c⟩) G.ok (fun h => h.elim hve hce) (by rw [hno]; rfl) (by rw [hs]; rfl)
  refine ⟨_, hb, bind_check G.ok hb, ?_, fun j hj hjk => ?_, fun s t h => ?_, fun s t h => ?_⟩
  · rw [putB_len, List.length_map, G.len]
  · rw [bind_get G.ok hb]
    split
    · rfl
    · rename_i e
      have hjk2 : j < k := by
        by_cases e2 : j = k
        · subst e2; exact absurd rfl e
        · omega
      have := G.has j hj hjk2
      cases q : getB l vs[j] with
      | none => rw [q] at this; cases this
      | some u => rfl
  · rw [bind_get G.ok hb] at h
    split at h
    · rename_i e
      injection h with h
      subst h
      subst e
      exact ⟨rfl, hc, by rw [List.take_add_one, List.getElem?_eq_getElem hk]; exact List.mem_append_right _ (by simp [hs])⟩
    · cases q : getB l s with
      | none => rw [q] at h; cases h
      | some u =>
        rw [q] at h
        obtain ⟨h1, h2, h3⟩ := G.cst _ _ q
        simp only [Option.map_some, Option.some.injEq] at h
        have : subT [⟨vs[k], subT l ⟨false, c⟩⟩] u = u := by unfold subT; rw [if_neg (by rw [h1]; decide)]
        rw [this] at h
        subst h
        exact ⟨h1, h2, by rw [List.take_add_one]; exact List.mem_append_left _ h3⟩
  · rw [bind_get G.ok hb] at h
    split at h
    · injection h with h
      subst h
      exact hcz
    · cases q : getB l s with
      | none => rw [q] at h; cases h
      | some u =>
        rw [q] at h
        obtain ⟨h1, h2, h3⟩ := G.cst _ _ q
        simp only [Option.map_some, Option.some.injEq] at h
        have : subT [⟨vs[k], subT l ⟨false, c⟩⟩] u = u := by unfold subT; rw [if_neg (by rw [h1]; decide)]
        rw [this] at h
        subst h
        exact G.sz _ _ q
/-- under constants for all of its variables a term is one -/
theorem sub_ground {vs : List ByteArray} {l : List BindD} (G : GInv vs vs.length l) {t : TermD} (ht : t.v = true → t.name ∈ vs) (hok : termB t = true) : (subT l t).v = false ∧ termB (subT l t) = true := by
  unfold subT
  cases hv : t.v
  · rw [if_neg (by decide)]; exact ⟨hv, hok⟩
  · rw [if_pos rfl]
    obtain ⟨j, hj, e⟩ := List.getElem_of_mem (ht hv)
    have h1 := G.has j hj hj
    rw [e] at h1
    cases q : getB l t.name with
    | none => rw [q] at h1; cases h1
    | some u => exact ⟨(G.cst _ _ q).1, (G.cst _ _ q).2.1⟩
theorem sub_size {vs : List ByteArray} {k : Nat} {l : List BindD} (G : GInv vs k l) {t : TermD} (ht : t.name.size ≤ 9223372036854775807) : (subT l t).name.size ≤ 9223372036854775807 := by
  unfold subT
  split
  · cases q : getB l t.name with
    | none => exact ht
    | some u => exact G.sz _ _ q
  · exact ht
theorem apply_okA {vs : List ByteArray} {k : Nat} {l : List BindD} (G : GInv vs k l) {a : AtomD} (ha : AtomOk a) : AtomOk (applyA l a) := by
  refine ⟨ha.says, ha.pred, ha.n, ?_, ?_, ?_, ?_⟩
  all_goals
    unfold applyA
    simp only
    split
  · exact sub_size G ha.t0
  · exact ha.t0
  · exact sub_size G ha.t1
  · exact ha.t1
  · exact sub_size G ha.t2
  · exact ha.t2
  · exact sub_size G ha.t3
  · exact ha.t3
theorem args_apply (l : List BindD) (a : AtomD) : (argsD (applyA l a)).take (cntI (applyA l a).n) = ((argsD a).take (cntI a.n)).map (subT l) := by
  show (argsD (applyA l a)).take (cntI a.n) = _
  unfold applyA argsD
  have := cntI_le a.n
  generalize cntI a.n = k at this ⊢
  obtain rfl | rfl | rfl | rfl | rfl : k = 0 ∨ k = 1 ∨ k = 2 ∨ k = 3 ∨ k = 4 := by omega
  all_goals rfl
theorem args_rest (l : List BindD) (a : AtomD) : (argsD (applyA l a)).drop (cntI (applyA l a).n) = (argsD a).drop (cntI a.n) := by
  show (argsD (applyA l a)).drop (cntI a.n) = _
  unfold applyA argsD
  have := cntI_le a.n
  generalize cntI a.n = k at this ⊢
  obtain rfl | rfl | rfl | rfl | rfl : k = 0 ∨ k = 1 ∨ k = 2 ∨ k = 3 ∨ k = 4 := by omega
  all_goals rfl
theorem vars_mem {a : AtomD} {t : TermD} (ht : t ∈ (argsD a).take (cntI a.n)) (hv : t.v = true) : t.name ∈ varsA a := (names_mem true _ _).2 ⟨t, ht, hv, rfl⟩
theorem one_only {l : List ByteArray} {x : ByteArray} (hd : l.Pairwise (fun x y => x ≠ y)) (hx : x ∈ l) (ho : ∀ y ∈ l, y = x) : l = [x] := by
  match l, hx with
  | [y], _ => rw [ho y (by simp)]
  | y :: z :: l, _ =>
    have h1 := ho y (by simp)
    have h2 := ho z (by simp)
    exact absurd (h1.trans h2.symm) ((List.pairwise_cons.1 hd).1 z (by simp))
/-- without one of them exactly that variable is left -/
theorem vars_left {a : AtomD} {l : List BindD} (G : GInv (varsA a) (varsA a).length l) (k : Nat) (hk : k < (varsA a).length) (rest : List ByteArray) (hr : ∀ s, s ∈ rest ↔ s ∈ varsA a ∧ s ≠ (varsA a)[k]) :
    varsA (applyA (restD l rest) a) = [(varsA a)[k]] := by
  have key : ∀ s, s ∈ varsA (applyA (restD l rest) a) ↔ s = (varsA a)[k] := fun s => by
    unfold varsA
    rw [args_apply]
    refine (names_mem true _ _).trans ?_
    constructor
    · rintro ⟨t, ht, hv, rfl⟩
      obtain ⟨u, hu, rfl⟩ := List.mem_map.1 ht
      cases huv : u.v
      · have : subT (restD l rest) u = u := by unfold subT; rw [if_neg (by rw [huv]; decide)]
        rw [this, huv] at hv; cases hv
      · have hm := vars_mem hu huv
        by_cases e : u.name = (varsA a)[k]
        · have : subT (restD l rest) u = u := sub_out (fun _ => hasS_false (fun h => ((hr _).1 h).2 e))
          rw [this]; exact e
        · have e2 : subT (restD l rest) u = subT l u := sub_rest (fun _ => hasS_true ((hr _).2 ⟨hm, e⟩))
          rw [e2] at hv
          obtain ⟨j, hj, e3⟩ := List.getElem_of_mem hm
          have h1 := G.has j hj hj
          rw [e3] at h1
          unfold subT at hv
          rw [if_pos huv] at hv
          cases q : getB l u.name with
          | none => rw [q] at h1; cases h1
          | some x =>
            rw [q] at hv
            have := (G.cst _ _ q).1
            simp only [Option.getD_some] at hv
            rw [this] at hv; cases hv
    · rintro rfl
      obtain ⟨t, ht, hv, e⟩ := (names_mem true _ _).1 (List.getElem_mem hk : (varsA a)[k] ∈ varsA a)
      have : subT (restD l rest) t = t := sub_out (fun _ => hasS_false (fun h => ((hr _).1 h).2 e))
      exact ⟨_, List.mem_map.2 ⟨t, ht, rfl⟩, by rw [this]; exact hv, by rw [this]; exact e⟩
  exact one_only (names_once4 _ _) ((key _).2 rfl) (fun y hy => (key y).1 hy)
theorem check_parts {a : AtomD} (h : checkD a = 0) : (prinB a.says && prinB a.pred) = true ∧ ¬ (a.n < 0 ∨ 4 < a.n) ∧ ((argsD a).take (cntI a.n)).all termB = true ∧ zerosB ((argsD a).drop (cntI a.n)) = true := by
  unfold checkD at h
  split at h
  · rename_i h1
    split at h
    · cases h
    · rename_i h2
      split at h
      · rename_i h3
        split at h
        · rename_i h4
          exact ⟨h1, h2, h3, h4⟩
        · cases h
      · cases h
  · cases h
theorem ground_all {a : AtomD} {l : List BindD} (G : GInv (varsA a) (varsA a).length l) (h : checkD a = 0) : groundD (applyA l a) = true ∧ checkD (applyA l a) = 0 := by
  obtain ⟨h1, h2, h3, h4⟩ := check_parts h
  have h5 : ∀ t ∈ (argsD a).take (cntI a.n), (subT l t).v = false ∧ termB (subT l t) = true := fun t ht => sub_ground G (vars_mem ht) (List.all_eq_true.1 h3 t ht)
  constructor
  · unfold groundD cntD
    rw [args_apply, List.all_map, List.all_eq_true]
    intro t ht
    simp only [Function.comp, (h5 t ht).1]; rfl
  · refine check_ok (a := applyA l a) h1 h2 ?_ ?_
    · rw [args_apply, List.all_map, List.all_eq_true]
      intro t ht
      exact (h5 t ht).2
    · rw [args_rest]; exact h4
theorem termB_emp (v : Bool) : termB ⟨v, emp⟩ = false := by cases v <;> decide +kernel
theorem vars_ne {a : AtomD} (h : checkD a = 0) (k : Nat) (hk : k < (varsA a).length) : (varsA a)[k] ≠ emp := by
  obtain ⟨t, ht, hv, e⟩ := (names_mem true _ _).1 (List.getElem_mem hk : (varsA a)[k] ∈ varsA a)
  have := List.all_eq_true.1 (check_parts h).2.2.1 t ht
  rw [← e]
  exact termB_ne this termB_emp
theorem vars_dist (a : AtomD) : (varsA a).Pairwise (fun x y => x ≠ y) := names_once4 _ _
theorem rest_mem {vs : List ByteArray} (hd : vs.Pairwise (fun x y => x ≠ y)) (k : Nat) (hk : k < vs.length) (s : ByteArray) : s ∈ vs.take k ++ vs.drop (k + 1) ↔ s ∈ vs ∧ s ≠ vs[k] := by
  rw [List.mem_append]
  constructor
  · rintro (h | h)
    · refine ⟨List.mem_of_mem_take h, ?_⟩
      obtain ⟨j, hj, rfl⟩ := List.getElem_of_mem h
      rw [List.getElem_take]
      rw [List.length_take] at hj
      exact List.pairwise_iff_getElem.1 hd j k (by omega) hk (by omega)
    · refine ⟨List.mem_of_mem_drop h, ?_⟩
      obtain ⟨j, hj, rfl⟩ := List.getElem_of_mem h
      rw [List.getElem_drop]
      rw [List.length_drop] at hj
      exact (List.pairwise_iff_getElem.1 hd k (k + 1 + j) hk (by omega) (by omega)).symm
  · rintro ⟨h, hne⟩
    obtain ⟨j, hj, rfl⟩ := List.getElem_of_mem h
    by_cases e : j < k
    · exact .inl (List.mem_take_iff_getElem.2 ⟨j, by omega, rfl⟩)
    · have : j ≠ k := fun e2 => hne (by subst e2; rfl)
      exact .inr (List.mem_drop_iff_getElem.2 ⟨j - (k + 1), by omega, by congr 1; omega⟩)
end Go.Proofs.YtkcnbdlhggoojaaDoor
