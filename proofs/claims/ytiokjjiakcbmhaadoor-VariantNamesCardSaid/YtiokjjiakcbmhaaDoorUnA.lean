/-
  Unifying as lists: the most general bindings, what they do, that either order gives the same. No condition.
-/
import Derived.Test.YtiokjjiakcbmhaaDoorMgA
namespace Go.Proofs.YtiokjjiakcbmhaaDoor
open Go.RowKit

/-- the variable that is bound, and what to -/
def dirD (s t : TermD) : TermD × TermD := if !s.v || (t.v && ltS s.name t.name) then (t, s) else (s, t)
def uniL : List BindD → List TermD → List TermD → Option (List BindD)
  | m, t :: ts, u :: us =>
    if eqT (subT m t) (subT m u) = true then uniL m ts us
    else if (dirD (subT m t) (subT m u)).1.v = false then none
    else if (bindD m (dirD (subT m t) (subT m u)).1.name (dirD (subT m t) (subT m u)).2).2 = 0 then uniL (bindD m (dirD (subT m t) (subT m u)).1.name (dirD (subT m t) (subT m u)).2).1 ts us
    else none
  | m, [], _ => some m
  | m, _ :: _, [] => some m
def uniD (a b : AtomD) : Option (List BindD) := if alikeD a b = true then uniL [] (argsN a) (argsN b) else none
def uniR (a b : AtomD) : List BindD × Bool := ((uniD a b).getD [], (uniD a b).isSome)
def meetR (a b : AtomD) : AtomD × Bool := if (uniR a b).2 = true then (applyA (uniR a b).1 a, true) else (zeroA, false)

theorem dir_var (s t : TermD) : (dirD s t).1.v = (s.v || t.v) := by
  unfold dirD
  cases hs : s.v <;> cases ht : t.v <;> simp [hs, ht]
  split <;> simp [hs, ht]
theorem dir_two (s t : TermD) : dirD s t = (s, t) ∨ dirD s t = (t, s) := by
  unfold dirD
  split
  · exact .inr rfl
  · exact .inl rfl
theorem dir_symm {s t : TermD} (h : s ≠ t) (hv : (s.v || t.v) = true) : dirD s t = dirD t s := by
  unfold dirD
  cases hs : s.v <;> cases ht : t.v
  · rw [hs, ht] at hv; cases hv
  · simp
  · simp
  · simp only [Bool.not_true, Bool.true_and, Bool.false_or]
    cases q : ltS s.name t.name
    · have : ltS t.name s.name = true := by
        cases k : ltS t.name s.name with
        | true => rfl
        | false => exact absurd (TermD.ext' (hs.trans ht.symm) (ltS_tri q k)) h
      rw [this]; simp
    · rw [ltS_asymm q]; simp
theorem eqT_comm (a b : TermD) : eqT a b = eqT b a := by
  rw [Bool.eq_iff_iff, eqT_iff, eqT_iff]
  exact ⟨Eq.symm, Eq.symm⟩
/-- in either order -/
theorem uniL_symm : ∀ (m : List BindD) (ts us : List TermD), ts.length = us.length → uniL m ts us = uniL m us ts
  | m, [], [], _ => rfl
  | m, [], _ :: _, h => by simp at h
  | m, _ :: _, [], h => by simp at h
  | m, t :: ts, u :: us, h => by
    have hl : ts.length = us.length := by simpa using h
    unfold uniL
    rw [eqT_comm (subT m u) (subT m t)]
    split
    · exact uniL_symm m ts us hl
    · rename_i hne
      have hne := eqT_ff hne
      cases hv : ((subT m t).v || (subT m u).v) with
      | false =>
        rw [if_pos (by rw [dir_var, hv]), if_pos (by rw [dir_var, Bool.or_comm, hv])]
      | true =>
        rw [dir_symm hne.symm (by rw [Bool.or_comm]; exact hv), uniL_symm _ ts us hl]
theorem uni_symm (a b : AtomD) : uniD a b = uniD b a := by
  unfold uniD
  by_cases h : alikeD a b = true
  · rw [if_pos h, if_pos (alike_symm h)]
    exact uniL_symm [] _ _ (alike_len h)
  · rw [if_neg h, if_neg (fun k => h (alike_symm k))]
theorem uniR_symm (a b : AtomD) : uniR a b = uniR b a := by unfold uniR; rw [uni_symm]

/-- bindings that a reading of the variables agrees with -/
def Reads (f : TermD → TermD) (m : List BindD) : Prop := ∀ t, f (subT m t) = f t
theorem sub_nil (t : TermD) : subT [] t = t := by unfold subT; split <;> rfl
theorem reads_nil (f : TermD → TermD) : Reads f [] := fun t => by rw [sub_nil]
theorem free_none {m : List BindD} (hm : checkB m = true) {x : TermD} (hx : subT m x = x) (hv : x.v = true) : getB m x.name = none := by
  have := subT_free hm x
  rw [hx] at this
  exact this hv
theorem bind_goes {m : List BindD} (hm : checkB m = true) {x y : TermD} (hx : subT m x = x) (hy : subT m y = y) (hv : x.v = true) (hne : x ≠ y) (nx : x.name ≠ emp) (ny : y.name ≠ emp) : (bindD m x.name y).2 = 0 := by
  rw [bind_ok hm (fun e => e.elim nx ny) (by rw [free_none hm hx hv]; rfl) ?_]
  rw [hy, ← Bool.not_eq_true, selfB_iff]
  exact fun e => hne ((TermD.ext' hv rfl : x = ⟨true, x.name⟩).trans e.symm)
theorem bind_reads {f : TermD → TermD} {m o : List BindD} (hm : checkB m = true) (hr : Reads f m) {x y : TermD} (hv : x.v = true) (hy : subT m y = y) (hf : f x = f y) (hb : bindD m x.name y = (o, 0)) : Reads f o := fun t => by
  rw [bind_sub hm hb, hy, subT_one]
  split
  · rename_i h
    show f y = f t
    rw [← hf, ← hr t]
    exact congrArg f (TermD.ext' (hv.trans h.1.symm) h.2.symm)
  · exact hr t
/-- the step's two terms, in their order -/
theorem dir_step {m : List BindD} (hm : checkB m = true) (t u : TermD) : subT m (dirD (subT m t) (subT m u)).1 = (dirD (subT m t) (subT m u)).1 ∧ subT m (dirD (subT m t) (subT m u)).2 = (dirD (subT m t) (subT m u)).2 := by
  rcases dir_two (subT m t) (subT m u) with e | e <;> rw [e] <;> exact ⟨sub_twice hm _, sub_twice hm _⟩
theorem dir_all {P : TermD → TermD → Prop} {s t : TermD} (h1 : P s t) (h2 : P t s) : P (dirD s t).1 (dirD s t).2 := by
  rcases dir_two s t with e | e <;> rw [e]
  · exact h1
  · exact h2
theorem uni_reads (f : TermD → TermD) : ∀ {ts us : List TermD} {m n : List BindD}, checkB m = true → Reads f m → ts.map f = us.map f → uniL m ts us = some n → Reads f n
  | [], us, m, n, _, hr, _, h => by
    obtain rfl : m = n := by simpa [uniL] using h
    exact hr
  | t :: ts, [], m, n, _, _, he, _ => by simp at he
  | t :: ts, u :: us, m, n, hm, hr, he, h => by
    rw [List.map_cons, List.map_cons] at he
    obtain ⟨e1, e2⟩ := List.cons.inj he
    unfold uniL at h
    split at h
    · exact uni_reads f hm hr e2 h
    · split at h
      · cases h
      · rename_i hv
        have hv : (dirD (subT m t) (subT m u)).1.v = true := by simpa using hv
        split at h
        · rename_i hz
          have hb : bindD m (dirD (subT m t) (subT m u)).1.name (dirD (subT m t) (subT m u)).2 = ((bindD m (dirD (subT m t) (subT m u)).1.name (dirD (subT m t) (subT m u)).2).1, 0) := by rw [← hz]
          have hfe : f (subT m t) = f (subT m u) := by rw [hr, hr, e1]
          refine uni_reads f (bind_check hm hb) (bind_reads hm hr hv (dir_step hm t u).2 ?_ hb) e2 h
          exact dir_all (P := fun x y => f x = f y) hfe hfe.symm
        · cases h
theorem uni_some (f : TermD → TermD) (hf : ∀ t, t.v = false → f t = t) : ∀ {ts us : List TermD} {m : List BindD}, checkB m = true → Reads f m → (∀ t ∈ ts, t.name ≠ emp) → (∀ u ∈ us, u.name ≠ emp) → ts.map f = us.map f → (uniL m ts us).isSome = true
  | [], us, m, _, _, _, _, _ => by simp [uniL]
  | t :: ts, [], m, _, _, _, _, he => by simp at he
  | t :: ts, u :: us, m, hm, hr, ht, hu, he => by
    rw [List.map_cons, List.map_cons] at he
    obtain ⟨e1, e2⟩ := List.cons.inj he
    have hts : ∀ t ∈ ts, t.name ≠ emp := fun x hx => ht x (List.mem_cons_of_mem _ hx)
    have hus : ∀ u ∈ us, u.name ≠ emp := fun x hx => hu x (List.mem_cons_of_mem _ hx)
    have nt := sub_name hm (ht t (List.mem_cons_self ..))
    have nu := sub_name hm (hu u (List.mem_cons_self ..))
    have hfe : f (subT m t) = f (subT m u) := by rw [hr, hr, e1]
    unfold uniL
    split
    · exact uni_some f hf hm hr hts hus e2
    · rename_i hne
      have hne := eqT_ff hne
      have hv : (dirD (subT m t) (subT m u)).1.v = true := by
        rw [dir_var]
        cases h1 : (subT m t).v <;> cases h2 : (subT m u).v <;> try rfl
        rw [hf _ h1, hf _ h2] at hfe
        exact absurd hfe hne
      obtain ⟨s1, s2⟩ := dir_step hm t u
      have hz : (bindD m (dirD (subT m t) (subT m u)).1.name (dirD (subT m t) (subT m u)).2).2 = 0 := by
        refine bind_goes hm s1 s2 hv ?_ ?_ ?_
        · exact dir_all (P := fun x y => x ≠ y) hne hne.symm
        · exact dir_all (P := fun x _ => x.name ≠ emp) nt nu
        · exact dir_all (P := fun _ y => y.name ≠ emp) nu nt
      rw [if_neg (by rw [hv]; decide), if_pos hz]
      have hb : bindD m (dirD (subT m t) (subT m u)).1.name (dirD (subT m t) (subT m u)).2 = ((bindD m (dirD (subT m t) (subT m u)).1.name (dirD (subT m t) (subT m u)).2).1, 0) := by rw [← hz]
      refine uni_some f hf (bind_check hm hb) (bind_reads hm hr hv s2 ?_ hb) hts hus e2
      exact dir_all (P := fun x y => f x = f y) hfe hfe.symm
/-- what unifying bindings do -/
structure UniOk (m n : List BindD) (ts us : List TermD) : Prop where
  check : checkB n = true
  over : ∀ t, subT n (subT m t) = subT n t
  same : ts.map (subT n) = us.map (subT n)
theorem uni_ok : ∀ {ts us : List TermD} {m n : List BindD}, checkB m = true → ts.length = us.length → uniL m ts us = some n → UniOk m n ts us
  | [], [], m, n, hm, _, h => by
    obtain rfl : m = n := by simpa [uniL] using h
    exact ⟨hm, sub_twice hm, rfl⟩
  | [], _ :: _, _, _, _, hl, _ => by simp at hl
  | _ :: _, [], _, _, _, hl, _ => by simp at hl
  | t :: ts, u :: us, m, n, hm, hl, h => by
    have hl2 : ts.length = us.length := by simpa using hl
    unfold uniL at h
    split at h
    · rename_i e
      have e := (eqT_iff _ _).1 e
      have E := uni_ok hm hl2 h
      refine ⟨E.check, E.over, ?_⟩
      rw [List.map_cons, List.map_cons, E.same, ← E.over t, e, E.over u]
    · split at h
      · cases h
      · rename_i hv
        have hv : (dirD (subT m t) (subT m u)).1.v = true := by simpa using hv
        split at h
        · rename_i hz
          have hb : bindD m (dirD (subT m t) (subT m u)).1.name (dirD (subT m t) (subT m u)).2 = ((bindD m (dirD (subT m t) (subT m u)).1.name (dirD (subT m t) (subT m u)).2).1, 0) := by rw [← hz]
          have E := uni_ok (bind_check hm hb) hl2 h
          have ho := bind_sub hm hb
          have over : ∀ x, subT n (subT m x) = subT n x := fun x => by
            rw [← E.over (subT m x), ho, sub_twice hm, ← ho, E.over]
          have key : subT n (dirD (subT m t) (subT m u)).1 = subT n (dirD (subT m t) (subT m u)).2 := by
            obtain ⟨s1, s2⟩ := dir_step hm t u
            rw [← E.over (dirD (subT m t) (subT m u)).1, ho, s1, s2, subT_one, if_pos ⟨hv, rfl⟩]
          refine ⟨E.check, over, ?_⟩
          rw [List.map_cons, List.map_cons, E.same, ← over t, ← over u]
          congr 1
          rcases dir_two (subT m t) (subT m u) with e | e <;> rw [e] at key
          · exact key
          · exact key.symm
        · cases h
/-- with constants alone unifying is matching -/
theorem uni_ground : ∀ {ts us : List TermD} {m : List BindD}, (∀ u ∈ us, u.v = false) → uniL m ts us = extL m ts us
  | [], us, m, _ => by simp [uniL, extL]
  | t :: ts, [], m, _ => by simp [uniL, extL]
  | t :: ts, u :: us, m, hu => by
    have hus : ∀ x ∈ us, x.v = false := fun x hx => hu x (List.mem_cons_of_mem _ hx)
    have huv := hu u (List.mem_cons_self ..)
    unfold uniL extL
    rw [sub_const huv]
    split
    · exact uni_ground hus
    · cases hv : (subT m t).v with
      | false => rw [if_pos (by rw [dir_var, hv, huv]; rfl), if_pos rfl]
      | true =>
        have hd : dirD (subT m t) u = (subT m t, u) := by unfold dirD; rw [hv, huv]; simp
        simp only [hd, hv]
        rw [if_neg (by decide)]
        try rw [if_neg (show ¬ (true = false) by decide)]
        split
        · exact uni_ground hus
        · rfl
theorem uniR_ground {p g : AtomD} (hp : checkD p = 0) (hg : groundD g = true) : uniR p g = extR [] p g := by
  have : uniD p g = extD [] p g := by
    unfold uniD extD
    by_cases h : alikeD p g = true
    · rw [if_pos h, if_pos (pre_iff.2 ⟨h, hg, by decide, bindable_flat Flat.nil (vars_nee hp)⟩), uni_ground (ground_iff.1 hg)]
    · rw [if_neg h, if_neg (fun k => h (pre_iff.1 k).1)]
  unfold uniR extR
  rw [this]
theorem uniR_some {a b : AtomD} {n : List BindD} (h : (n, true) = uniR a b) : uniD a b = some n := by
  unfold uniR at h
  obtain ⟨h1, h2⟩ := Prod.mk.inj h
  cases e : uniD a b with
  | none => rw [e] at h2; cases h2
  | some x => rw [e] at h1; exact congrArg some h1.symm
theorem uniR_none {a b : AtomD} {n : List BindD} (h : (n, false) = uniR a b) : n = [] ∧ uniD a b = none := by
  unfold uniR at h
  obtain ⟨h1, h2⟩ := Prod.mk.inj h
  cases e : uniD a b with
  | none => rw [e] at h1; exact ⟨h1, rfl⟩
  | some x => rw [e] at h2; cases h2
theorem uni_pre {a b : AtomD} {n : List BindD} (h : uniD a b = some n) : alikeD a b = true ∧ uniL [] (argsN a) (argsN b) = some n := by
  unfold uniD at h
  split at h
  · rename_i e; exact ⟨e, h⟩
  · cases h
theorem uni_facts {a b : AtomD} {n : List BindD} (h : uniD a b = some n) : UniOk [] n (argsN a) (argsN b) := by
  obtain ⟨h1, h2⟩ := uni_pre h
  exact uni_ok (by decide) (alike_len h1) h2
/-- atoms with the same head and the same first terms, and none after them -/
theorem atom_same {a b : AtomD} (ha : zerosB ((argsD a).drop (cntI a.n)) = true) (hb : zerosB ((argsD b).drop (cntI b.n)) = true) (h1 : a.says = b.says) (h2 : a.pred = b.pred) (h3 : a.n = b.n) (h : argsN a = argsN b) : a = b := by
  refine AtomD.ext' h1 h2 h3 ?_
  rw [← List.take_append_drop (cntI a.n) (argsD a), ← List.take_append_drop (cntI b.n) (argsD b)]
  rw [show (argsD a).take (cntI a.n) = (argsD b).take (cntI b.n) from h]
  congr 1
  refine zeros_eq ha hb ?_
  rw [List.length_drop, List.length_drop, h3]; rfl
theorem apply_drop (l : List BindD) (a : AtomD) : (argsD (applyA l a)).drop (cntI (applyA l a).n) = (argsD a).drop (cntI a.n) := args_rest l a
theorem apply_argsN (l : List BindD) (a : AtomD) : argsN (applyA l a) = (argsN a).map (subT l) := args_apply l a
theorem uni_apply {a b : AtomD} {n : List BindD} (ha : zerosB ((argsD a).drop (cntI a.n)) = true) (hb : zerosB ((argsD b).drop (cntI b.n)) = true) (h : uniD a b = some n) : applyA n a = applyA n b := by
  obtain ⟨h1, h2, h3, _, _⟩ := alike_iff.1 (uni_pre h).1
  refine atom_same (by rw [apply_drop]; exact ha) (by rw [apply_drop]; exact hb) h1 h2 h3 ?_
  rw [apply_argsN, apply_argsN, (uni_facts h).same]
/-- what makes both equal is a special case of the bindings, and there are some -/
theorem uni_most {a b : AtomD} (ha : checkD a = 0) (hb : checkD b = 0) {l : List BindD} (h : applyA l a = applyA l b) : ∃ n, uniD a b = some n ∧ applyA l (applyA n a) = applyA l a := by
  have hal : alikeD a b = true := alike_iff.2 ⟨(show (applyA l a).says = (applyA l b).says from congrArg AtomD.says h), (show (applyA l a).pred = (applyA l b).pred from congrArg AtomD.pred h), (show (applyA l a).n = (applyA l b).n from congrArg AtomD.n h), (check_n ha).1, (check_n ha).2⟩
  have hm : (argsN a).map (subT l) = (argsN b).map (subT l) := by rw [← apply_argsN, ← apply_argsN, h]
  have hs : (uniL [] (argsN a) (argsN b)).isSome = true := uni_some (subT l) (fun t ht => sub_const ht) (by decide) (reads_nil _) (fun t ht => names_nee ha ht) (fun t ht => names_nee hb ht) hm
  cases e : uniL [] (argsN a) (argsN b) with
  | none => rw [e] at hs; cases hs
  | some n =>
    have hr := uni_reads (subT l) (by decide) (reads_nil _) hm e
    refine ⟨n, by unfold uniD; rw [if_pos hal, e], ?_⟩
    exact (apply_comp (c := l) (fun t => (hr t).symm) a).symm
end Go.Proofs.YtiokjjiakcbmhaaDoor
