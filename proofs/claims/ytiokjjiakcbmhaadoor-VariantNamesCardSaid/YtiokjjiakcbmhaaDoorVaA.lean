/-
  The canonical form of an atom, variants of each other, as plain mathematics. No condition.
-/
import Derived.Test.YtiokjjiakcbmhaaDoorUnC
import Derived.Test.YtiokjjiakcbmhaaDoorVaQ
namespace Go.Proofs.YtiokjjiakcbmhaaDoor
open Go.RowKit

/-- the k-th name of a canonical form -/
def vName (k : Nat) : ByteArray := ⟨#[86]⟩ ++ ⟨(Lib.decDigits k).toArray⟩
theorem vName_inj {i k : Nat} (hi : i < 9223372036854775808) (hk : k < 9223372036854775808) (h : vName i = vName k) : i = k := by
  have h2 := congrArg (fun b => b.data.toList) (app_cancelL h)
  exact digits_inj hi hk (by simpa using h2)
theorem vName_small : ∀ k : Nat, k < 4 → variB (vName k) = true := by decide +kernel
theorem vName_size (k : Nat) (hk : k < 10) : (vName k).size = 2 := by
  unfold vName
  rw [app_size, Lib.decDigits_one hk]; rfl
/-- the place of a name in a list -/
def idxN (vs : List ByteArray) (s : ByteArray) : Nat := vs.findIdx (fun x => decide (x = s))
theorem idxN_nil (s : ByteArray) : idxN [] s = 0 := rfl
theorem idxN_cons (x : ByteArray) (vs : List ByteArray) (s : ByteArray) : idxN (x :: vs) s = if x = s then 0 else idxN vs s + 1 := by
  unfold idxN
  rw [List.findIdx_cons]
  by_cases h : x = s
  · simp [h]
  · simp [h]
theorem idxN_hit : ∀ {vs : List ByteArray} {s : ByteArray}, s ∈ vs → ∃ h : idxN vs s < vs.length, vs[idxN vs s] = s
  | [], s, h => by simp at h
  | x :: vs, s, h => by
    by_cases e : x = s
    · have e2 : idxN (x :: vs) s = 0 := by rw [idxN_cons, if_pos e]
      simp only [e2, List.length_cons]
      exact ⟨by omega, e⟩
    · have e2 : idxN (x :: vs) s = idxN vs s + 1 := by rw [idxN_cons, if_neg e]
      have hm : s ∈ vs := by
        rcases List.mem_cons.1 h with rfl | h
        · exact absurd rfl e
        · exact h
      obtain ⟨h1, h2⟩ := idxN_hit hm
      simp only [e2, List.length_cons, List.getElem_cons_succ]
      exact ⟨by omega, h2⟩
theorem idxN_miss : ∀ {vs : List ByteArray} {s : ByteArray}, s ∉ vs → idxN vs s = vs.length
  | [], s, _ => rfl
  | x :: vs, s, h => by
    rw [idxN_cons, if_neg (fun e => h (by rw [e]; exact List.mem_cons_self ..)), idxN_miss (fun hm => h (List.mem_cons_of_mem _ hm))]
    rfl
theorem idxN_inj {vs : List ByteArray} {s t : ByteArray} (hs : s ∈ vs) (ht : t ∈ vs) (h : idxN vs s = idxN vs t) : s = t := by
  obtain ⟨h1, h2⟩ := idxN_hit hs
  obtain ⟨h3, h4⟩ := idxN_hit ht
  rw [← h2, ← h4]
  simp only [h]
theorem idxN_map {g : ByteArray → ByteArray} : ∀ {vs : List ByteArray} {s : ByteArray}, (∀ x ∈ vs, g x = g s → x = s) → idxN (vs.map g) (g s) = idxN vs s
  | [], s, _ => rfl
  | x :: vs, s, hg => by
    rw [List.map_cons, idxN_cons, idxN_cons, idxN_map (fun y hy => hg y (List.mem_cons_of_mem _ hy))]
    by_cases e : x = s
    · rw [if_pos e, if_pos (by rw [e])]
    · rw [if_neg e, if_neg (fun h => e (hg x (List.mem_cons_self ..) h))]
theorem idxN_at {vs : List ByteArray} (hn : vs.Pairwise (fun x y => x ≠ y)) {k : Nat} (hk : k < vs.length) : idxN vs vs[k] = k := by
  obtain ⟨h1, h2⟩ := idxN_hit (List.getElem_mem hk)
  rcases Nat.lt_trichotomy (idxN vs vs[k]) k with h | h | h
  · exact absurd h2 (List.pairwise_iff_getElem.1 hn _ _ h1 hk h)
  · exact h
  · exact absurd h2.symm (List.pairwise_iff_getElem.1 hn _ _ hk h1 h)
/-- a longer list of names: the place is the same -/
theorem idxN_app {vs us : List ByteArray} {s : ByteArray} (h : s ∈ vs) : idxN (vs ++ us) s = idxN vs s := by
  induction vs with
  | nil => simp at h
  | cons x vs ih =>
    rw [List.cons_append, idxN_cons, idxN_cons]
    by_cases e : x = s
    · rw [if_pos e, if_pos e]
    · rw [if_neg e, if_neg e, ih (by
        rcases List.mem_cons.1 h with rfl | h
        · exact absurd rfl e
        · exact h)]

/-- a term with its variable renamed -/
def renF (g : ByteArray → ByteArray) (t : TermD) : TermD := if t.v then ⟨true, g t.name⟩ else t
def canT (vs : List ByteArray) (t : TermD) : TermD := renF (fun s => vName (idxN vs s)) t
/-- the canonical form -/
def canonD (a : AtomD) : AtomD := mapA (canT (varsA a)) a
theorem renF_v (g : ByteArray → ByteArray) (t : TermD) : (renF g t).v = t.v := by
  unfold renF
  split
  · rename_i h; exact h.symm
  · rfl
theorem renF_cst (g : ByteArray → ByteArray) (t : TermD) (h : t.v = false) : renF g t = t := by unfold renF; rw [h]; rfl
theorem renF_var (g : ByteArray → ByteArray) (t : TermD) (h : t.v = true) : renF g t = ⟨true, g t.name⟩ := by unfold renF; rw [h]; rfl
theorem canT_v (vs : List ByteArray) (t : TermD) : (canT vs t).v = t.v := renF_v _ t
theorem map_mapA (f g : TermD → TermD) (a : AtomD) : mapA f (mapA g a) = mapA (fun t => f (g t)) a := by
  unfold mapA
  have := cntI_le a.n
  refine AtomD.ext' rfl rfl rfl ?_
  simp only [argsD]
  congr 1
  · split <;> rfl
  congr 1
  · split <;> rfl
  congr 1
  · split <;> rfl
  congr 1
  split <;> rfl
theorem argsN_mem {a : AtomD} {i : Nat} (hi : i < cntI a.n) {t : TermD} (ht : (argsD a)[i]? = some t) : t ∈ argsN a :=
  List.mem_of_getElem? (i := i) (by unfold argsN; rw [List.getElem?_take, if_pos hi, ht])
theorem mapA_congr {f g : TermD → TermD} {a : AtomD} (h : ∀ t ∈ argsN a, f t = g t) : mapA f a = mapA g a := by
  unfold mapA
  refine AtomD.ext' rfl rfl rfl ?_
  simp only [argsD]
  congr 1
  · split
    · rename_i hi; exact h _ (argsN_mem hi rfl)
    · rfl
  congr 1
  · split
    · rename_i hi; exact h _ (argsN_mem hi rfl)
    · rfl
  congr 1
  · split
    · rename_i hi; exact h _ (argsN_mem hi rfl)
    · rfl
  congr 1
  split
  · rename_i hi; exact h _ (argsN_mem hi rfl)
  · rfl
theorem mapA_id {f : TermD → TermD} {a : AtomD} (h : ∀ t ∈ argsN a, f t = t) : mapA f a = a := by
  rw [mapA_congr (g := id) h]
  unfold mapA
  simp only [id, ite_self]
theorem step_mapP {g : ByteArray → ByteArray} {vs : List ByteArray} {s : ByteArray} (hg : ∀ x ∈ vs, g x = g s → x = s) : Lib.containsS (vs.map g) (g s) = Lib.containsS vs s := by
  cases h : Lib.containsS vs s with
  | true => exact hasS_true (List.mem_map.2 ⟨s, (Lib.containsS_iff vs s).1 h, rfl⟩)
  | false => exact hasS_false (fun hm => by
      obtain ⟨y, hy, e⟩ := List.mem_map.1 hm
      have := hg y hy e
      subst this
      rw [hasS_true hy] at h; cases h)
theorem names_renF {g : ByteArray → ByteArray} (P : ByteArray → Prop) (hg : ∀ x y, P x → P y → g x = g y → x = y) : ∀ (ts : List TermD) (vs : List ByteArray), (∀ t ∈ ts, t.v = true → P t.name) → (∀ x ∈ vs, P x) →
    (ts.map (renF g)).foldl (stepN true) (vs.map g) = (ts.foldl (stepN true) vs).map g
  | [], _, _, _ => rfl
  | t :: ts, vs, ht, hv => by
    have hs : stepN true (vs.map g) (renF g t) = (stepN true vs t).map g := by
      unfold stepN
      rw [renF_v]
      cases hb : t.v with
      | false => simp
      | true =>
        have e : (renF g t).name = g t.name := by rw [renF_var g t hb]
        rw [e, step_mapP (fun x hx h => hg x t.name (hv x hx) (ht t (List.mem_cons_self ..) hb) h)]
        split <;> simp
    rw [List.map_cons, List.foldl_cons, List.foldl_cons, hs]
    refine names_renF P hg ts _ (fun u hu => ht u (List.mem_cons_of_mem _ hu)) (fun x hx => ?_)
    rcases (step_mem true vs t x).1 hx with h | ⟨h1, h2⟩
    · exact hv x h
    · rw [← h2]; exact ht t (List.mem_cons_self ..) h1
theorem mem_vars {a : AtomD} {t : TermD} (ht : t ∈ argsN a) (hv : t.v = true) : t.name ∈ varsA a := vars_mem ht hv
theorem vars_of_mem {a : AtomD} {s : ByteArray} (h : s ∈ varsA a) : ∃ t ∈ argsN a, t.v = true ∧ t.name = s := (names_mem true _ _).1 h
theorem vars_renF {g : ByteArray → ByteArray} {a : AtomD} (hg : ∀ x ∈ varsA a, ∀ y ∈ varsA a, g x = g y → x = y) : varsA (mapA (renF g) a) = (varsA a).map g := by
  show (argsN (mapA (renF g) a)).foldl (stepN true) [] = ((argsN a).foldl (stepN true) []).map _
  rw [map_argsN]
  exact names_renF (fun x => x ∈ varsA a) (fun x y hx hy h => hg x hx y hy h) _ [] (fun t ht hv => mem_vars ht hv) (by simp)
/-- with its variables renamed an atom has the same canonical form -/
theorem canon_ren {g : ByteArray → ByteArray} {a : AtomD} (hg : ∀ x ∈ varsA a, ∀ y ∈ varsA a, g x = g y → x = y) : canonD (mapA (renF g) a) = canonD a := by
  unfold canonD
  rw [vars_renF hg, map_mapA]
  refine mapA_congr fun t ht => ?_
  cases hv : t.v with
  | false => rw [renF_cst g t hv]; unfold canT; rw [renF_cst _ t hv, renF_cst _ t hv]
  | true =>
    rw [renF_var g t hv]
    unfold canT
    rw [renF_var _ _ rfl, renF_var _ t hv]
    simp only
    rw [idxN_map (fun x hx h => hg x hx _ (mem_vars ht hv) h)]
theorem vars4 (a : AtomD) : (varsA a).length ≤ 4 := varsA_len a
theorem idx_lt {a : AtomD} {s : ByteArray} (h : s ∈ varsA a) : idxN (varsA a) s < 4 := by
  obtain ⟨h1, _⟩ := idxN_hit h
  have := vars4 a
  omega
theorem vidx_inj {a : AtomD} {x y : ByteArray} (hx : x ∈ varsA a) (hy : y ∈ varsA a) (h : vName (idxN (varsA a) x) = vName (idxN (varsA a) y)) : x = y := by
  have h1 := idx_lt hx
  have h2 := idx_lt hy
  exact idxN_inj hx hy (vName_inj (by omega) (by omega) h)
theorem canon_canon (a : AtomD) : canonD (canonD a) = canonD a := canon_ren (g := fun s => vName (idxN (varsA a) s)) (fun _ hx _ hy h => vidx_inj hx hy h)
theorem canon_args (a : AtomD) : argsN (canonD a) = (argsN a).map (canT (varsA a)) := map_argsN _ a
theorem canon_drop (a : AtomD) : (argsD (canonD a)).drop (cntI (canonD a).n) = (argsD a).drop (cntI a.n) := map_drop _ a
theorem canon_ok {a : AtomD} (h : checkD a = 0) : checkD (canonD a) = 0 := by
  obtain ⟨h1, h2, h3, h4⟩ := check_parts h
  refine check_ok (a := canonD a) h1 h2 ?_ ?_
  · show (argsN (canonD a)).all termB = true
    rw [canon_args, List.all_map, List.all_eq_true]
    intro t ht
    show termB (canT (varsA a) t) = true
    have h5 := List.all_eq_true.1 h3 t ht
    cases hv : t.v with
    | false => unfold canT; rw [renF_cst _ t hv]; exact h5
    | true =>
      unfold canT
      rw [renF_var _ t hv]
      exact vName_small _ (idx_lt (mem_vars ht hv))
  · rw [canon_drop]; exact h4
theorem canon_ground {a : AtomD} (h : groundD a = true) : canonD a = a := mapA_id (fun t ht => renF_cst _ t (ground_iff.1 h t ht))
theorem ground_canon (a : AtomD) : groundD (canonD a) = groundD a := by
  have h : ∀ c, groundD c = (argsN c).all (fun t => !t.v) := fun _ => rfl
  rw [h, h, canon_args, List.all_map]
  congr 1
  funext t
  show (!(canT (varsA a) t).v) = _
  rw [canT_v]
theorem ground_same (a : AtomD) : groundD a = (eqA (canonD a) a && groundD (canonD a)) := by
  rw [ground_canon]
  cases h : groundD a with
  | false => simp
  | true => rw [(eqA_iff _ _).2 (canon_ground h)]; rfl
theorem canon_alike {a : AtomD} (h : checkD a = 0) : alikeD (canonD a) a = true := alike_iff.2 ⟨rfl, rfl, rfl, (check_n h).1, (check_n h).2⟩
theorem canon_under {a : AtomD} (h : checkD a = 0) : underD (canonD a) a = true := by
  refine under_iff.2 ⟨canon_alike h, ?_⟩
  rw [canon_args]
  exact cons_map _ (fun t ht => renF_cst _ t ht) _
theorem under_canon {a : AtomD} (h : checkD a = 0) : underD a (canonD a) = true := by
  refine under_iff.2 ⟨alike_symm (canon_alike h), ?_⟩
  rw [canon_args]
  intro i j hi hj ki kj
  rw [List.getElem_map, List.getElem_map]
  refine ⟨fun hv => ?_, fun hv e => ?_⟩
  · rw [canT_v] at hv
    exact (renF_cst _ _ hv).symm
  · rw [canT_v] at hv
    have hv2 : (argsN a)[j].v = true := by rw [← canT_v (varsA a), ← e, canT_v]; exact hv
    unfold canT at e
    rw [renF_var _ _ hv, renF_var _ _ hv2] at e
    injection e with _ e
    refine TermD.ext' (by rw [hv, hv2]) ?_
    exact vidx_inj (mem_vars (List.getElem_mem _) hv) (mem_vars (List.getElem_mem _) hv2) e
theorem back_var {ts us : List TermD} (hl : ts.length = us.length) (h : Cons us ts) {i : Nat} (hi : i < ts.length) (ki : i < us.length) (hv : ts[i].v = true) : us[i].v = true := by
  cases hu : us[i].v with
  | true => rfl
  | false =>
    have := (h i i ki ki hi hi).1 hu
    rw [this, hu] at hv; cases hv
/-- each under the other one: one is the other one with its variables renamed -/
theorem both_ren {a b : AtomD} (ha : checkD a = 0) (hb : checkD b = 0) (h1 : underD a b = true) (h2 : underD b a = true) : ∃ g : ByteArray → ByteArray, (∀ x ∈ varsA a, ∀ y ∈ varsA a, g x = g y → x = y) ∧ b = mapA (renF g) a := by
  obtain ⟨k1, c1⟩ := under_iff.1 h1
  obtain ⟨k2, c2⟩ := under_iff.1 h2
  have hl := alike_len k1
  have hw := cons_want hl c2
  have key : ∀ s ∈ varsA a, ∃ i, ∃ hi : i < (argsN a).length, ∃ ki : i < (argsN b).length, (argsN a)[i] = ⟨true, s⟩ ∧ wantN (argsN a) (argsN b) ⟨true, s⟩ = (argsN b)[i] ∧ (argsN b)[i].v = true := by
    intro s hs
    obtain ⟨t, ht, hv, rfl⟩ := vars_of_mem hs
    obtain ⟨i, hi, e⟩ := List.getElem_of_mem ht
    have et : t = ⟨true, t.name⟩ := TermD.ext' hv rfl
    have ki : i < (argsN b).length := by omega
    refine ⟨i, hi, ki, e.trans et, ?_, ?_⟩
    · have : ((argsN a).map (wantN (argsN a) (argsN b)))[i]'(by rw [List.length_map]; exact hi) = (argsN b)[i] := by simp only [hw]
      rw [List.getElem_map, e] at this
      rw [← et]; exact this
    · exact back_var hl c1 hi ki (by rw [e]; exact hv)
  refine ⟨fun s => (wantN (argsN a) (argsN b) ⟨true, s⟩).name, fun x hx y hy h => ?_, ?_⟩
  · obtain ⟨i, hi, ki, e1, e2, e3⟩ := key x hx
    obtain ⟨j, hj, kj, f1, f2, f3⟩ := key y hy
    simp only at h
    rw [e2, f2] at h
    have he : (argsN b)[i] = (argsN b)[j] := TermD.ext' (by rw [e3, f3]) h
    have := (c1 i j ki kj hi hj).2 e3 he
    rw [e1, f1] at this
    injection this
  · have hm : argsN (mapA (renF fun s => (wantN (argsN a) (argsN b) ⟨true, s⟩).name) a) = argsN b := by
      rw [map_argsN]
      refine Eq.trans (List.map_congr_left fun t ht => ?_) hw
      cases hv : t.v with
      | false =>
        rw [renF_cst _ t hv]; unfold wantN; rw [hv]; rfl
      | true =>
        rw [renF_var _ t hv]
        obtain ⟨i, hi, ki, e1, e2, e3⟩ := key t.name (mem_vars ht hv)
        have et : t = ⟨true, t.name⟩ := TermD.ext' hv rfl
        refine TermD.ext' ?_ ?_
        · show true = _
          rw [et, e2, e3]
        · show (wantN (argsN a) (argsN b) ⟨true, t.name⟩).name = _
          rw [← et]
    obtain ⟨q1, q2, q3, _, _⟩ := alike_iff.1 k1
    exact (atom_same (a := mapA (renF fun s => (wantN (argsN a) (argsN b) ⟨true, s⟩).name) a) (b := b) (by rw [map_drop]; exact (check_parts ha).2.2.2) (check_parts hb).2.2.2 q1 q2 q3 hm).symm
/-- VARIANTS: one canonical form is to be under each other -/
theorem canon_iff {a b : AtomD} (ha : checkD a = 0) (hb : checkD b = 0) : eqA (canonD a) (canonD b) = (underD a b && underD b a) := by
  rw [Bool.eq_iff_iff, eqA_iff, Bool.and_eq_true]
  constructor
  · intro h
    refine ⟨under_trans (under_canon ha) ?_, under_trans (under_canon hb) ?_⟩
    · rw [h]; exact canon_under hb
    · rw [← h]; exact canon_under ha
  · rintro ⟨h1, h2⟩
    obtain ⟨g, hg, rfl⟩ := both_ren ha hb h1 h2
    exact (canon_ren hg).symm
theorem canon_self (a : AtomD) : eqA (canonD a) (canonD (canonD a)) = true := (eqA_iff _ _).2 (canon_canon a).symm
theorem key_same {a b : AtomD} (ha : checkD a = 0) (hb : checkD b = 0) : ((textD (canonD a)).toList == (textD (canonD b)).toList) = eqA (canonD a) (canonD b) := text_eq (canon_ok ha) (canon_ok hb)

/-- bindings of an atom's variables to names -/
def namesB (vs ns : List ByteArray) : List BindD := (vs.zip ns).map (fun p => ⟨p.1, ⟨true, p.2⟩⟩)
theorem getB_names : ∀ {vs ns : List ByteArray} {s : ByteArray}, s ∈ vs → vs.length ≤ ns.length → getB (namesB vs ns) s = some ⟨true, ns.getD (idxN vs s) emp⟩
  | [], _, s, h, _ => by simp at h
  | x :: vs, [], s, _, h => by simp at h
  | x :: vs, n :: ns, s, h, hl => by
    show (if x = s then some (⟨true, n⟩ : TermD) else getB (namesB vs ns) s) = _
    rw [idxN_cons]
    by_cases e : x = s
    · rw [if_pos e, if_pos e]; rfl
    · rw [if_neg e, if_neg e, getB_names (by
        rcases List.mem_cons.1 h with rfl | h
        · exact absurd rfl e
        · exact h) (by simpa using hl)]
      rfl
theorem apply_map (l : List BindD) (a : AtomD) : applyA l a = mapA (subT l) a := rfl
/-- renamed apart: a variant -/
theorem canon_names {a : AtomD} {ns : List ByteArray} (hl : (varsA a).length ≤ ns.length) (hn : (ns.take (varsA a).length).Pairwise (fun x y => x ≠ y)) : canonD (applyA (namesB (varsA a) ns) a) = canonD a := by
  have e : applyA (namesB (varsA a) ns) a = mapA (renF (fun s => ns.getD (idxN (varsA a) s) emp)) a := by
    rw [apply_map]
    refine mapA_congr fun t ht => ?_
    unfold subT renF
    cases hv : t.v with
    | false => rfl
    | true => rw [getB_names (mem_vars ht hv) hl]; rfl
  rw [e]
  refine canon_ren fun x hx y hy h => ?_
  obtain ⟨h1, _⟩ := idxN_hit hx
  obtain ⟨h2, _⟩ := idxN_hit hy
  refine idxN_inj hx hy ?_
  rw [List.getD_eq_getElem?_getD, List.getD_eq_getElem?_getD, List.getElem?_eq_getElem (by omega), List.getElem?_eq_getElem (by omega)] at h
  simp only [Option.getD_some] at h
  have hlt : ∀ {i} (hi : i < (varsA a).length), ∃ q : i < (ns.take (varsA a).length).length, (ns.take (varsA a).length)[i] = ns[i]'(by omega) := fun {i} hi => ⟨by rw [List.length_take]; omega, by rw [List.getElem_take]⟩
  obtain ⟨q1, r1⟩ := hlt h1
  obtain ⟨q2, r2⟩ := hlt h2
  rw [← r1, ← r2] at h
  rcases Nat.lt_trichotomy (idxN (varsA a) x) (idxN (varsA a) y) with g | g | g
  · exact absurd h (List.pairwise_iff_getElem.1 hn _ _ q1 q2 g)
  · exact g
  · exact absurd h.symm (List.pairwise_iff_getElem.1 hn _ _ q2 q1 g)
/-- two variables made equal: no variant -/
theorem canon_two {a : AtomD} {l : List BindD} {x y : ByteArray} (hx : x ∈ varsA a) (hy : y ∈ varsA a) (hne : x ≠ y) (h : subT l ⟨true, x⟩ = subT l ⟨true, y⟩) : eqA (canonD a) (canonD (applyA l a)) = false := by
  rw [Bool.eq_false_iff]
  intro he
  have he := (eqA_iff _ _).1 he
  have ha := congrArg argsN he
  rw [canon_args, canon_args, apply_argsN, List.map_map] at ha
  have key : ∀ s ∈ varsA a, canT (varsA a) ⟨true, s⟩ = canT (varsA (applyA l a)) (subT l ⟨true, s⟩) := by
    intro s hs
    obtain ⟨t, ht, hv, rfl⟩ := vars_of_mem hs
    have et : t = ⟨true, t.name⟩ := TermD.ext' hv rfl
    rw [← et]
    exact List.map_inj_left.1 ha t ht
  have h2 := (key x hx).trans ((congrArg _ h).trans (key y hy).symm)
  unfold canT at h2
  rw [renF_var _ _ rfl, renF_var _ _ rfl] at h2
  injection h2 with _ h2
  exact hne (vidx_inj hx hy h2)

/-- what is kept of a list: each canonical form once -/
def stepC (out : List AtomD) (c : AtomD) : List AtomD := if out.any (eqA c) then out else out ++ [c]
def distinctD (l : List AtomD) : List AtomD := (l.map canonD).foldl stepC []
def idxA (d : List AtomD) (c : AtomD) : Nat := d.findIdx (eqA c)
theorem anyA_iff (d : List AtomD) (c : AtomD) : d.any (eqA c) = true ↔ c ∈ d := by
  rw [List.any_eq_true]
  exact ⟨fun ⟨x, hx, h⟩ => by rw [(eqA_iff _ _).1 h]; exact hx, fun h => ⟨c, h, (eqA_iff _ _).2 rfl⟩⟩
theorem stepC_in {d : List AtomD} {c : AtomD} (h : d.any (eqA c) = true) : stepC d c = d := by unfold stepC; rw [if_pos h]
theorem stepC_out {d : List AtomD} {c : AtomD} (h : d.any (eqA c) = false) : stepC d c = d ++ [c] := by unfold stepC; rw [if_neg (by rw [h]; decide)]
theorem stepC_mem {d : List AtomD} {c x : AtomD} : x ∈ stepC d c ↔ x ∈ d ∨ x = c := by
  cases h : d.any (eqA c) with
  | true =>
    rw [stepC_in h]
    exact ⟨.inl, fun k => k.elim id (fun e => by rw [e]; exact (anyA_iff d c).1 h)⟩
  | false => rw [stepC_out h]; simp
theorem foldC_mem : ∀ {l d : List AtomD} {x : AtomD}, x ∈ l.foldl stepC d ↔ x ∈ d ∨ x ∈ l
  | [], d, x => by simp
  | c :: l, d, x => by
    rw [List.foldl_cons, foldC_mem, stepC_mem, List.mem_cons]
    exact ⟨fun h => h.elim (fun h => h.elim .inl (fun e => .inr (.inl e))) (fun h => .inr (.inr h)), fun h => h.elim (fun h => .inl (.inl h)) (fun h => h.elim (fun e => .inl (.inr e)) .inr)⟩
theorem stepC_once {d : List AtomD} {c : AtomD} (h : d.Pairwise (fun x y => x ≠ y)) : (stepC d c).Pairwise (fun x y => x ≠ y) := by
  cases hc : d.any (eqA c) with
  | true => rw [stepC_in hc]; exact h
  | false =>
    rw [stepC_out hc, List.pairwise_append]
    refine ⟨h, by simp, fun x hx y hy => ?_⟩
    obtain rfl := List.mem_singleton.1 hy
    rintro rfl
    rw [(anyA_iff d x).2 hx] at hc; cases hc
theorem foldC_once : ∀ {l d : List AtomD}, d.Pairwise (fun x y => x ≠ y) → (l.foldl stepC d).Pairwise (fun x y => x ≠ y)
  | [], _, h => h
  | c :: l, d, h => by
    show (l.foldl stepC (stepC d c)).Pairwise _
    exact foldC_once (stepC_once h)
theorem distinct_once (l : List AtomD) : (distinctD l).Pairwise (fun x y => x ≠ y) := foldC_once List.Pairwise.nil
theorem distinct_mem {l : List AtomD} {x : AtomD} : x ∈ distinctD l ↔ ∃ a ∈ l, canonD a = x := by
  unfold distinctD
  rw [foldC_mem, List.mem_map]; simp
theorem distinct_canon {l : List AtomD} {x : AtomD} (h : x ∈ distinctD l) : canonD x = x := by
  obtain ⟨a, _, rfl⟩ := distinct_mem.1 h
  exact canon_canon a
theorem distinct_snoc (l : List AtomD) (a : AtomD) : distinctD (l ++ [a]) = stepC (distinctD l) (canonD a) := by
  unfold distinctD
  rw [List.map_append, List.foldl_append]; rfl
theorem distinct_succ {l : List AtomD} {k : Nat} (hk : k < l.length) : distinctD (l.take (k + 1)) = stepC (distinctD (l.take k)) (canonD l[k]) := by
  rw [List.take_add_one, List.getElem?_eq_getElem hk]
  exact distinct_snoc _ _
theorem stepC_pre (d : List AtomD) (c : AtomD) : ∃ e, stepC d c = d ++ e := by
  cases h : d.any (eqA c) with
  | true => exact ⟨[], by rw [stepC_in h, List.append_nil]⟩
  | false => exact ⟨[c], stepC_out h⟩
theorem foldC_pre : ∀ (l d : List AtomD), ∃ e, l.foldl stepC d = d ++ e
  | [], d => ⟨[], (List.append_nil d).symm⟩
  | c :: l, d => by
    obtain ⟨e, he⟩ := stepC_pre d c
    obtain ⟨f, hf⟩ := foldC_pre l (stepC d c)
    exact ⟨e ++ f, by rw [List.foldl_cons, hf, he, List.append_assoc]⟩
theorem distinct_pre (l : List AtomD) (k : Nat) : ∃ e, distinctD l = distinctD (l.take k) ++ e := by
  obtain ⟨e, he⟩ := foldC_pre ((l.drop k).map canonD) (distinctD (l.take k))
  refine ⟨e, ?_⟩
  rw [← he]
  unfold distinctD
  rw [← List.foldl_append, ← List.map_append, List.take_append_drop]
theorem stepC_len (d : List AtomD) (c : AtomD) : (stepC d c).length ≤ d.length + 1 := by
  unfold stepC
  split
  · omega
  · simp
theorem distinct_len : ∀ (l : List AtomD) (k : Nat), (distinctD (l.take k)).length ≤ k
  | l, 0 => by simp [distinctD]
  | l, k + 1 => by
    have ih := distinct_len l k
    by_cases hk : k < l.length
    · rw [distinct_succ hk]
      have := stepC_len (distinctD (l.take k)) (canonD l[k])
      omega
    · rw [List.take_of_length_le (by omega)] at ih ⊢
      omega
theorem distinct_le (l : List AtomD) : (distinctD l).length ≤ l.length := by
  have := distinct_len l l.length
  rwa [List.take_length] at this
theorem idxA_hit {d : List AtomD} {c : AtomD} (h : c ∈ d) : ∃ q : idxA d c < d.length, d[idxA d c] = c := by
  have q : idxA d c < d.length := List.findIdx_lt_length.2 ⟨c, h, (eqA_iff _ _).2 rfl⟩
  exact ⟨q, ((eqA_iff _ _).1 (List.findIdx_getElem (p := eqA c) (w := q))).symm⟩
theorem idxA_same {d : List AtomD} {c : AtomD} (hn : d.Pairwise (fun x y => x ≠ y)) (h : c ∈ d) {n : Nat} (hk : n < d.length) : eqA d[n] c = decide (n = idxA d c) := by
  obtain ⟨q, e⟩ := idxA_hit h
  rw [Bool.eq_iff_iff, eqA_iff, decide_eq_true_eq]
  constructor
  · intro h2
    rcases Nat.lt_trichotomy n (idxA d c) with g | g | g
    · exact absurd (h2.trans e.symm) (List.pairwise_iff_getElem.1 hn _ _ hk q g)
    · exact g
    · exact absurd (e.trans h2.symm) (List.pairwise_iff_getElem.1 hn _ _ q hk g)
  · intro h2
    subst h2
    exact e
/-- the place of the k-th element's form among those kept -/
theorem idxA_step {l : List AtomD} {k : Nat} (hk : k < l.length) : idxA (distinctD l) (canonD l[k]) ≤ (distinctD (l.take k)).length ∧
    (distinctD (l.take (k + 1))).length = (if idxA (distinctD l) (canonD l[k]) = (distinctD (l.take k)).length then (distinctD (l.take k)).length + 1 else (distinctD (l.take k)).length) ∧ (distinctD (l.take k)).length ≤ (distinctD l).length := by
  have hm : canonD l[k] ∈ distinctD l := distinct_mem.2 ⟨_, List.getElem_mem hk, rfl⟩
  obtain ⟨q, e⟩ := idxA_hit hm
  have hn := distinct_once l
  obtain ⟨f, hf⟩ := distinct_pre l k
  obtain ⟨f2, hf2⟩ := distinct_pre l (k + 1)
  have hle : (distinctD (l.take k)).length ≤ (distinctD l).length := by rw [hf, List.length_append]; omega
  rw [distinct_succ hk] at hf2 ⊢
  cases hc : (distinctD (l.take k)).any (eqA (canonD l[k])) with
  | true =>
    have hin := (anyA_iff _ _).1 hc
    obtain ⟨i, hi, ei⟩ := List.getElem_of_mem hin
    have hi2 : i < (distinctD l).length := by omega
    have e2 : (distinctD l)[i] = canonD l[k] := by
      have : (distinctD l)[i]'hi2 = (distinctD (l.take k) ++ f)[i]'(by rw [← hf]; exact hi2) := by simp only [hf]
      rw [this, List.getElem_append_left hi, ei]
    have e3 := idxA_same hn hm hi2
    rw [(eqA_iff _ _).2 e2] at e3
    have e4 : i = idxA (distinctD l) (canonD l[k]) := by simpa using e3.symm
    rw [stepC_in hc, if_neg (by omega)]
    exact ⟨by omega, rfl, hle⟩
  | false =>
    rw [stepC_out hc] at hf2 ⊢
    have hlt : (distinctD (l.take k)).length < (distinctD l).length := by rw [hf2]; simp
    have e2 : (distinctD l)[(distinctD (l.take k)).length] = canonD l[k] := by
      have : (distinctD l)[(distinctD (l.take k)).length]'hlt = (distinctD (l.take k) ++ [canonD l[k]] ++ f2)[(distinctD (l.take k)).length]'(by rw [← hf2]; exact hlt) := by simp only [hf2]
      rw [this, List.getElem_append_left (by simp), List.getElem_append_right (Nat.le_refl _)]
      simp
    have e3 := idxA_same hn hm hlt
    rw [(eqA_iff _ _).2 e2] at e3
    have e4 : (distinctD (l.take k)).length = idxA (distinctD l) (canonD l[k]) := by simpa using e3.symm
    rw [if_pos e4.symm]
    exact ⟨by omega, by simp, hle⟩
/-- applied again the result is the same -/
theorem fold_fix : ∀ (l d : List AtomD), (d ++ l).Pairwise (fun x y => x ≠ y) → l.foldl stepC d = d ++ l
  | [], d, _ => by simp
  | c :: l, d, h => by
    have hc : d.any (eqA c) = false := by
      rw [Bool.eq_false_iff]
      intro hm
      exact (List.pairwise_append.1 h).2.2 c ((anyA_iff d c).1 hm) c (List.mem_cons_self ..) rfl
    rw [List.foldl_cons, stepC_out hc, fold_fix l _ (by simpa using h)]
    simp
theorem distinct_fix (l : List AtomD) : distinctD (distinctD l) = distinctD l := by
  have e : (distinctD l).map canonD = distinctD l := (List.map_congr_left fun x hx => distinct_canon hx).trans (List.map_id _)
  show ((distinctD l).map canonD).foldl stepC [] = _
  rw [e, fold_fix _ [] (by simpa using distinct_once l)]
  rfl
end Go.Proofs.YtiokjjiakcbmhaaDoor
