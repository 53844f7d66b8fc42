/-
  Matching as lists: which bindings extend given ones, which atoms are under others. No condition. What matching makes, when bindings extend, what being under is: for valid atoms. No condition. The walks of package match's helpers: whether two atoms are alike, whether a pattern's variables can be bound. Conditions: as each says. Under: the walk. An array of terms by value at an index. Conditions: as each says. Extend and Match: the walks. Conditions: as each says.
-/
import Derived.Test.YtiokjjiakcbmhaaDoorSgH
import Derived.Test.YtiokjjiakcbmhaaDoorSgD
import Derived.Test.YtiokjjiakcbmhaaDoorTgC
import Derived.Deep.DeepCutAuto
import Derived.WalkMore
namespace Go.Proofs.YtiokjjiakcbmhaaDoor
open Go.RowKit

def argsN (a : AtomD) : List TermD := (argsD a).take (cntI a.n)
theorem argsN_len (a : AtomD) : (argsN a).length = cntI a.n := by
  have := cntI_le a.n
  unfold argsN
  rw [List.length_take]; show min _ 4 = _; omega
def alikeD (a b : AtomD) : Bool := (a.says.toList == b.says.toList) && ((a.pred.toList == b.pred.toList) && ((a.n == b.n) && (decide (0 ≤ a.n) && decide (a.n ≤ 4))))
theorem alike_iff {a b : AtomD} : alikeD a b = true ↔ a.says = b.says ∧ a.pred = b.pred ∧ a.n = b.n ∧ 0 ≤ a.n ∧ a.n ≤ 4 := by
  have e : ∀ x y : ByteArray, (x.toList == y.toList) = true ↔ x = y := fun x y => ⟨fun h => ba_ext (eq_of_beq h), fun h => by rw [h]; simp⟩
  unfold alikeD
  simp only [Bool.and_eq_true, e, beq_iff_eq, decide_eq_true_eq]
theorem alike_symm {a b : AtomD} (h : alikeD a b = true) : alikeD b a = true := by
  obtain ⟨h1, h2, h3, h4, h5⟩ := alike_iff.1 h
  exact alike_iff.2 ⟨h1.symm, h2.symm, h3.symm, by rw [← h3]; exact h4, by rw [← h3]; exact h5⟩
theorem alike_trans {a b c : AtomD} (h : alikeD a b = true) (k : alikeD b c = true) : alikeD a c = true := by
  obtain ⟨h1, h2, h3, h4, h5⟩ := alike_iff.1 h
  obtain ⟨k1, k2, k3, _, _⟩ := alike_iff.1 k
  exact alike_iff.2 ⟨h1.trans k1, h2.trans k2, h3.trans k3, h4, h5⟩
theorem alike_len {a b : AtomD} (h : alikeD a b = true) : (argsN a).length = (argsN b).length := by
  rw [argsN_len, argsN_len, (alike_iff.1 h).2.2.1]
/-- no variable that stands for a constant is without a name, or bound to a variable -/
def stuckB (l : List BindD) (v : ByteArray) : Bool := decide (v = emp) || (getR l v).1.v
def bindableD (l : List BindD) (p : AtomD) : Bool := !((varsA p).any (stuckB l))
def extL : List BindD → List TermD → List TermD → Option (List BindD)
  | m, t :: ts, u :: us =>
    if eqT (subT m t) u = true then extL m ts us
    else if (subT m t).v = false then none
    else if (bindD m (subT m t).name u).2 = 0 then extL (bindD m (subT m t).name u).1 ts us
    else none
  | m, [], _ => some m
  | m, _ :: _, [] => some m
def preD (l : List BindD) (p g : AtomD) : Bool := alikeD p g && (groundD g && (checkB l && bindableD l p))
def extD (l : List BindD) (p g : AtomD) : Option (List BindD) := if preD l p g = true then extL l (argsN p) (argsN g) else none
def extR (l : List BindD) (p g : AtomD) : List BindD × Bool := ((extD l p g).getD [], (extD l p g).isSome)
def matchB (p g : AtomD) : Bool := (extD [] p g).isSome

def idxT (l : List TermD) (t : TermD) : Nat := l.findIdx (fun x => eqT t x)
/-- what makes the terms ts those of us: constants are equal, equal variables have equal ones -/
def Cons (ts us : List TermD) : Prop := ∀ i j (hi : i < ts.length) (hj : j < ts.length) (ki : i < us.length) (kj : j < us.length), (ts[i].v = false → us[i] = ts[i]) ∧ (ts[i].v = true → ts[i] = ts[j] → us[i] = us[j])
theorem cons_refl (ts : List TermD) : Cons ts ts := fun _ _ _ _ _ _ => ⟨fun _ => rfl, fun _ e => e⟩
theorem cons_trans {ts us vs : List TermD} (h1 : ts.length = us.length) (h2 : us.length = vs.length) (h : Cons ts us) (k : Cons us vs) : Cons ts vs := fun i j hi hj ki kj => by
  have a := h i j hi hj (by omega) (by omega)
  have b := k i j (by omega) (by omega) ki kj
  have b2 := k j i (by omega) (by omega) kj ki
  refine ⟨fun hc => ?_, fun hv he => ?_⟩
  · have e := a.1 hc
    rw [← e]
    exact b.1 (by rw [e]; exact hc)
  · have e := a.2 hv he
    cases hu : us[i].v with
    | true => exact b.2 hu e
    | false => rw [b.1 hu, b2.1 (by rw [← e]; exact hu), e]
theorem cons_map (f : TermD → TermD) (hf : ∀ t, t.v = false → f t = t) (ts : List TermD) : Cons ts (ts.map f) := fun i j hi hj ki kj => by
  rw [List.getElem_map, List.getElem_map]
  exact ⟨fun h => hf _ h, fun _ e => by rw [e]⟩
theorem sub_cst (l : List BindD) (t : TermD) (h : t.v = false) : subT l t = t := sub_const h

/-- bindings to constants alone -/
structure Flat (m : List BindD) : Prop where
  asc : Asc m
  cst : ∀ b ∈ m, b.t.v = false ∧ b.t.name ≠ emp
theorem Flat.nil : Flat [] := ⟨asc_nil, fun b h => by cases h⟩
theorem Flat.check {m : List BindD} (h : Flat m) : checkB m = true := checkB_iff.2 ⟨h.asc, fun b hb => ⟨(h.cst b hb).2, fun k => by rw [(h.cst b hb).1] at k; cases k⟩⟩
theorem Flat.get {m : List BindD} (h : Flat m) {v : ByteArray} {t : TermD} (e : getB m v = some t) : t.v = false ∧ t.name ≠ emp := h.cst _ (getB_mem e)
theorem Flat.sub {m : List BindD} (h : Flat m) {t : TermD} : (getB m t.name = none ∧ subT m t = t) ∨ (subT m t).v = false := by
  unfold subT
  cases hv : t.v with
  | false => rw [if_neg (by decide)]; exact .inr hv
  | true =>
    rw [if_pos rfl]
    cases e : getB m t.name with
    | none => exact .inl ⟨rfl, rfl⟩
    | some u => exact .inr (h.get e).1
theorem Flat.bind {m : List BindD} (h : Flat m) {v : ByteArray} {u n : TermD} {o : List BindD} (hu : u.v = false) (hn : n = u) (hb : bindD m v n = (o, 0)) :
    Flat o ∧ v ≠ emp ∧ u.name ≠ emp ∧ getB m v = none ∧ o.length = m.length + 1 ∧ ∀ s, getB o s = if s = v then some u else getB m s := by
  subst hn
  obtain ⟨hv, hne, hnb, hs, ho⟩ := bind_facts h.check hb
  have hsu : subT m n = n := sub_const hu
  have hg := bind_get h.check hb
  rw [hsu] at hg ho
  refine ⟨⟨bind_asc h.check hb, fun b hb2 => ?_⟩, hv, hne, hnb, ?_, fun s => ?_⟩
  · rw [ho] at hb2
    rcases putB_mem.1 hb2 with rfl | hb2
    · exact ⟨hu, hne⟩
    · obtain ⟨y, hy, rfl⟩ := List.mem_map.1 hb2
      obtain ⟨y1, y2⟩ := h.cst y hy
      simp only
      rw [sub_const y1]
      exact ⟨y1, y2⟩
  · rw [ho, putB_len, List.length_map]
  · rw [hg]
    split
    · rfl
    · cases e : getB m s with
      | none => rfl
      | some t => simp only [Option.map_some]; rw [sub_const (h.get e).1]
theorem Flat.bindOk {m : List BindD} (h : Flat m) {v : ByteArray} {u : TermD} (hu : u.v = false) (hv : v ≠ emp) (hn : u.name ≠ emp) (hb : getB m v = none) : (bindD m v u).2 = 0 := by
  have hs : subT m u = u := sub_const hu
  rw [bind_ok h.check (fun e => e.elim hv hn) (by rw [hb]; rfl) (by rw [hs]; unfold selfB; rw [hu]; rfl)]
theorem eqT_ff {a b : TermD} (h : ¬ eqT a b = true) : a ≠ b := fun e => h ((eqT_iff a b).2 e)

/-- what bindings that extend others do -/
structure ExtOk (m n : List BindD) (ts us : List TermD) : Prop where
  flat : Flat n
  keep : ∀ s t, getB m s = some t → getB n s = some t
  hit : ∀ i (hi : i < ts.length) (ki : i < us.length), subT n ts[i] = us[i]
  new : ∀ b ∈ n, b ∈ m ∨ ∃ i, ∃ hi : i < ts.length, ts[i].v = true ∧ ts[i].name = b.v
theorem ext_ok : ∀ {ts us : List TermD} {m n : List BindD}, Flat m → (∀ u ∈ us, u.v = false) → ts.length = us.length → extL m ts us = some n → ExtOk m n ts us
  | [], us, m, n, hm, _, _, h => by
    obtain rfl : m = n := by simpa [extL] using h
    exact ⟨hm, fun _ _ e => e, fun i hi => by simp at hi, fun b hb => .inl hb⟩
  | t :: ts, [], _, _, _, _, hl, _ => by simp at hl
  | t :: ts, u :: us, m, n, hm, hu, hl, h => by
    have hl2 : ts.length = us.length := by simpa using hl
    have hus : ∀ x ∈ us, x.v = false := fun x hx => hu x (List.mem_cons_of_mem _ hx)
    have huv := hu u (List.mem_cons_self ..)
    unfold extL at h
    split at h
    · rename_i e
      have e := (eqT_iff _ _).1 e
      have E := ext_ok hm hus hl2 h
      refine ⟨E.flat, E.keep, fun i hi ki => ?_, fun b hb => ?_⟩
      · cases i with
        | succ i => exact E.hit i (by simpa using hi) (by simpa using ki)
        | zero =>
          show subT n t = u
          cases hv : t.v with
          | false => rw [sub_const hv]; rw [sub_const hv] at e; exact e
          | true =>
            unfold subT at e ⊢
            rw [if_pos hv] at e ⊢
            cases q : getB m t.name with
            | some x => rw [q] at e; rw [E.keep _ _ q]; exact e
            | none => rw [q] at e; simp only [Option.getD_none] at e; rw [← e, hv] at huv; cases huv
      · rcases E.new b hb with h1 | ⟨i, hi, h2, h3⟩
        · exact .inl h1
        · exact .inr ⟨i + 1, by simpa using hi, by simpa using h2, by simpa using h3⟩
    · rename_i hne
      split at h
      · cases h
      · rename_i hv
        split at h
        · rename_i hz
          rcases hm.sub (t := t) with ⟨q1, q2⟩ | q
          · rw [q2] at hv hz h
            have hv : t.v = true := by simpa using hv
            have hb : bindD m t.name u = ((bindD m t.name u).1, 0) := by rw [← hz]
            obtain ⟨f1, f2, f3, f4, f5, f6⟩ := hm.bind huv rfl hb
            have E := ext_ok f1 hus hl2 h
            refine ⟨E.flat, fun s x hx => E.keep _ _ ?_, fun i hi ki => ?_, fun b hb => ?_⟩
            · rw [f6, if_neg]
              · exact hx
              · intro e; subst e; rw [q1] at hx; cases hx
            · cases i with
              | succ i => exact E.hit i (by simpa using hi) (by simpa using ki)
              | zero =>
                show subT n t = u
                unfold subT
                rw [if_pos hv, E.keep t.name u (by rw [f6, if_pos rfl])]
                rfl
            · rcases E.new b hb with h1 | ⟨i, hi, h2, h3⟩
              · by_cases e : b.v = t.name
                · exact .inr ⟨0, by simp, by simpa using hv, by simpa using e.symm⟩
                · refine .inl ?_
                  have := getB_of_mem f1.asc h1
                  rw [f6, if_neg e] at this
                  exact getB_mem this
              · exact .inr ⟨i + 1, by simpa using hi, by simpa using h2, by simpa using h3⟩
          · rw [q] at hv; exact absurd rfl hv
        · cases h
theorem ext_len : ∀ {ts us : List TermD} {m n : List BindD} (vs : List ByteArray), Flat m → (∀ u ∈ us, u.v = false) → ts.length = us.length → extL m ts us = some n → (∀ s, s ∈ vs ↔ (getB m s).isSome = true) → m.length = vs.length → n.length = (ts.foldl (stepN true) vs).length
  | [], us, m, n, vs, _, _, _, h, _, hl => by
    obtain rfl : m = n := by simpa [extL] using h
    exact hl
  | t :: ts, [], _, _, _, _, _, hl, _, _, _ => by simp at hl
  | t :: ts, u :: us, m, n, vs, hm, hu, hl, h, hvs, hlen => by
    have hl2 : ts.length = us.length := by simpa using hl
    have hus : ∀ x ∈ us, x.v = false := fun x hx => hu x (List.mem_cons_of_mem _ hx)
    have huv := hu u (List.mem_cons_self ..)
    rw [List.foldl_cons]
    unfold extL at h
    split at h
    · rename_i e
      have e := (eqT_iff _ _).1 e
      have E := ext_len vs hm hus hl2 h hvs hlen
      have hst : stepN true vs t = vs := by
        unfold stepN
        cases hv : t.v with
        | false => simp
        | true =>
          have : Lib.containsS vs t.name = true := hasS_true ((hvs _).2 (by
            unfold subT at e
            rw [if_pos hv] at e
            cases q : getB m t.name with
            | some x => rfl
            | none => rw [q] at e; simp only [Option.getD_none] at e; rw [← e, hv] at huv; cases huv))
          rw [this]; simp
      rw [hst]; exact E
    · rename_i hne
      split at h
      · cases h
      · rename_i hv
        split at h
        · rename_i hz
          rcases hm.sub (t := t) with ⟨q1, q2⟩ | q
          · rw [q2] at hv hz h
            have hv : t.v = true := by simpa using hv
            have hb : bindD m t.name u = ((bindD m t.name u).1, 0) := by rw [← hz]
            obtain ⟨f1, f2, f3, f4, f5, f6⟩ := hm.bind huv rfl hb
            have hst : stepN true vs t = vs ++ [t.name] := by
              unfold stepN
              have : Lib.containsS vs t.name = false := hasS_false (fun hx => by rw [hvs, q1] at hx; cases hx)
              rw [this, hv]; rfl
            rw [hst]
            refine ext_len (vs ++ [t.name]) f1 hus hl2 h (fun s => ?_) (by rw [f5, hlen]; simp)
            rw [f6, List.mem_append, hvs, List.mem_singleton]
            by_cases e : s = t.name
            · rw [if_pos e]; simp [e]
            · rw [if_neg e]; simp [e]
          · rw [q] at hv; exact absurd rfl hv
        · cases h
/-- where one reading of the variables makes the terms those, bindings are found -/
theorem ext_some (f : TermD → TermD) (hf : ∀ t, t.v = false → f t = t) : ∀ {ts us : List TermD} {m : List BindD}, Flat m → (∀ s t, getB m s = some t → f ⟨true, s⟩ = t) → (∀ u ∈ us, u.v = false) → (∀ t ∈ ts, t.v = true → t.name ≠ emp ∧ (f t).name ≠ emp) → ts.map f = us → (extL m ts us).isSome = true
  | [], us, m, _, _, _, _, _ => by simp [extL]
  | t :: ts, us, m, hm, hk, hu, hn, he => by
    subst he
    rw [List.map_cons] at hu ⊢
    have hus : ∀ x ∈ ts.map f, x.v = false := fun x hx => hu x (List.mem_cons_of_mem _ hx)
    have huv := hu (f t) (List.mem_cons_self ..)
    have hns : ∀ t ∈ ts, t.v = true → t.name ≠ emp ∧ (f t).name ≠ emp := fun x hx => hn x (List.mem_cons_of_mem _ hx)
    unfold extL
    split
    · exact ext_some f hf hm hk hus hns rfl
    · rename_i hne
      have hne := eqT_ff hne
      cases hv : t.v with
      | false => rw [sub_const hv, hf t hv] at hne; exact absurd rfl hne
      | true =>
        obtain ⟨n1, n2⟩ := hn t (List.mem_cons_self ..) hv
        have ht : t = ⟨true, t.name⟩ := TermD.ext' hv rfl
        cases q : getB m t.name with
        | some x =>
          have h1 := hk _ _ q
          rw [← ht] at h1
          have : subT m t = x := by unfold subT; rw [if_pos hv, q]; rfl
          rw [this, h1] at hne
          exact absurd rfl hne
        | none =>
          have hs : subT m t = t := by unfold subT; rw [if_pos hv, q]; rfl
          rw [hs, if_neg (by rw [hv]; decide)]
          have hz := hm.bindOk huv n1 n2 q
          rw [if_pos hz]
          have hb : bindD m t.name (f t) = ((bindD m t.name (f t)).1, 0) := by rw [← hz]
          obtain ⟨f1, f2, f3, f4, f5, f6⟩ := hm.bind huv rfl hb
          refine ext_some f hf f1 (fun s x hx => ?_) hus hns rfl
          rw [f6] at hx
          split at hx
          · rename_i e
            injection hx with hx
            rw [e, ← ht, hx]
          · exact hk _ _ hx
end Go.Proofs.YtiokjjiakcbmhaaDoor
namespace Go.Proofs.YtiokjjiakcbmhaaDoor
open Go.RowKit

def wantN (ts us : List TermD) (t : TermD) : TermD := if t.v then us.getD (idxT ts t) zeroT else t
/-- at place i the atom a has what the pattern p wants -/
def fitB (p a : AtomD) (i : Nat) : Bool := eqT (wantN (argsD p) (argsD a) ((argsD p).getD i zeroT)) ((argsD a).getD i zeroT)
def underD (a p : AtomD) : Bool := alikeD a p && (List.range (cntI a.n)).all (fitB p a)
theorem idx_hit {l : List TermD} {i : Nat} (hi : i < l.length) : ∃ h : idxT l l[i] < l.length, idxT l l[i] ≤ i ∧ l[idxT l l[i]] = l[i] := by
  have h : idxT l l[i] < l.length := List.findIdx_lt_length.2 ⟨l[i], List.getElem_mem hi, (eqT_iff _ _).2 rfl⟩
  refine ⟨h, ?_, ((eqT_iff _ _).1 (List.findIdx_getElem (p := fun x => eqT l[i] x) (w := h))).symm⟩
  by_cases hlt : i < idxT l l[i]
  · have := List.not_of_lt_findIdx (p := fun x => eqT l[i] x) hlt
    rw [(eqT_iff _ _).2 rfl] at this
    cases this
  · omega
theorem getD_at {l : List TermD} {i : Nat} (h : i < l.length) : l.getD i zeroT = l[i] := by rw [List.getD_eq_getElem?_getD, List.getElem?_eq_getElem h]; rfl
theorem cons_want {ts us : List TermD} (hl : ts.length = us.length) (h : Cons ts us) : ts.map (wantN ts us) = us := by
  refine List.ext_getElem (by rw [List.length_map, hl]) (fun i h1 h2 => ?_)
  rw [List.length_map] at h1
  rw [List.getElem_map]
  unfold wantN
  obtain ⟨g1, g2, g3⟩ := idx_hit h1
  have a := h _ i g1 h1 (by omega) h2
  have b := h i i h1 h1 h2 h2
  cases hv : ts[i].v with
  | false => rw [if_neg (by decide)]; exact (b.1 hv).symm
  | true => rw [if_pos rfl, getD_at (by omega)]; exact a.2 (by rw [g3]; exact hv) g3
theorem argsN_at {a : AtomD} {i : Nat} (h : i < cntI a.n) : ∃ (h1 : i < (argsN a).length) (h2 : i < (argsD a).length), (argsN a)[i] = (argsD a)[i] := by
  have := cntI_le a.n
  exact ⟨by rw [argsN_len]; exact h, by show i < 4; omega, by unfold argsN; rw [List.getElem_take]⟩
theorem under_iff {a p : AtomD} : underD a p = true ↔ alikeD a p = true ∧ Cons (argsN p) (argsN a) := by
  unfold underD
  rw [Bool.and_eq_true, List.all_eq_true]
  constructor
  · rintro ⟨ha, h⟩
    refine ⟨ha, ?_⟩
    have hn : cntI a.n = cntI p.n := by rw [(alike_iff.1 ha).2.2.1]
    have key : ∀ i (hi : i < (argsN p).length) (ki : i < (argsN a).length), wantN (argsD p) (argsD a) (argsN p)[i] = (argsN a)[i] := fun i hi ki => by
      rw [argsN_len] at hi ki
      obtain ⟨h1, h2, h3⟩ := argsN_at hi
      obtain ⟨k1, k2, k3⟩ := argsN_at ki
      have := (eqT_iff _ _).1 (h i (List.mem_range.2 ki))
      rw [getD_at h2, getD_at k2] at this
      rw [h3, k3]; exact this
    intro i j hi hj ki kj
    have e1 := key i hi ki
    have e2 := key j hj kj
    refine ⟨fun hv => ?_, fun hv e => ?_⟩
    · rw [← e1]; unfold wantN; rw [hv]; rfl
    · rw [← e1, ← e2, e]
  · rintro ⟨ha, h⟩
    refine ⟨ha, fun i hi => ?_⟩
    have hi := List.mem_range.1 hi
    have hn : cntI a.n = cntI p.n := by rw [(alike_iff.1 ha).2.2.1]
    have hi2 : i < cntI p.n := by rw [← hn]; exact hi
    obtain ⟨h1, h2, h3⟩ := argsN_at hi2
    obtain ⟨k1, k2, k3⟩ := argsN_at hi
    unfold fitB
    rw [eqT_iff, getD_at h2, getD_at k2]
    unfold wantN
    cases hv : (argsD p)[i].v with
    | false =>
      rw [if_neg (by decide), ← h3, ← k3]
      exact ((h i i h1 h1 k1 k1).1 (by rw [h3]; exact hv)).symm
    | true =>
      obtain ⟨g1, g2, g3⟩ := idx_hit h2
      obtain ⟨m1, m2, m3⟩ := argsN_at (a := p) (i := idxT (argsD p) (argsD p)[i]) (by omega)
      obtain ⟨n1, n2, n3⟩ := argsN_at (a := a) (i := idxT (argsD p) (argsD p)[i]) (by omega)
      rw [if_pos rfl]
      refine (getD_at n2).trans ?_
      rw [← n3, ← k3]
      have e := m3.trans (g3.trans h3.symm)
      exact (h _ i m1 h1 n1 k1).2 ((congrArg TermD.v (e.trans h3)).trans hv) e
theorem under_trans {a b c : AtomD} (h : underD a b = true) (k : underD b c = true) : underD a c = true := by
  obtain ⟨h1, h2⟩ := under_iff.1 h
  obtain ⟨k1, k2⟩ := under_iff.1 k
  exact under_iff.2 ⟨alike_trans h1 k1, cons_trans (alike_len (alike_symm k1)) (alike_len (alike_symm h1)) k2 h2⟩
theorem check_n {a : AtomD} (h : checkD a = 0) : 0 ≤ a.n ∧ a.n ≤ 4 := by
  have := (check_parts h).2.1
  omega
theorem alike_self {a : AtomD} (h : checkD a = 0) : alikeD a a = true := alike_iff.2 ⟨rfl, rfl, rfl, (check_n h).1, (check_n h).2⟩
theorem under_refl {a : AtomD} (h : checkD a = 0) : underD a a = true := under_iff.2 ⟨alike_self h, cons_refl _⟩
theorem under_apply {a : AtomD} (h : checkD a = 0) (l : List BindD) : underD (applyA l a) a = true := by
  refine under_iff.2 ⟨alike_iff.2 ⟨rfl, rfl, rfl, (check_n h).1, (check_n h).2⟩, ?_⟩
  rw [show argsN (applyA l a) = (argsN a).map (subT l) from args_apply l a]
  exact cons_map _ (sub_cst l) _
theorem ground_iff {g : AtomD} : groundD g = true ↔ ∀ u ∈ argsN g, u.v = false := by
  show (argsN g).all (fun t => !t.v) = true ↔ _
  rw [List.all_eq_true]
  exact ⟨fun h u hu => by simpa using h u hu, fun h u hu => by simpa using h u hu⟩
theorem pre_iff {l : List BindD} {p g : AtomD} : preD l p g = true ↔ alikeD p g = true ∧ groundD g = true ∧ checkB l = true ∧ bindableD l p = true := by
  unfold preD
  rw [Bool.and_eq_true, Bool.and_eq_true, Bool.and_eq_true]
theorem bindable_iff {l : List BindD} {p : AtomD} : bindableD l p = true ↔ ∀ v ∈ varsA p, v ≠ emp ∧ (getR l v).1.v = false := by
  unfold bindableD
  rw [Bool.not_eq_true', List.any_eq_false]
  unfold stuckB
  constructor
  · intro h v hv
    have := h v hv
    simp only [Bool.or_eq_true, decide_eq_true_eq, not_or, Bool.not_eq_true] at this
    exact this
  · intro h v hv
    simp only [Bool.or_eq_true, decide_eq_true_eq, not_or, Bool.not_eq_true]
    exact h v hv
theorem vars_of {p : AtomD} {t : TermD} (ht : t ∈ argsN p) (hv : t.v = true) : t.name ∈ varsA p := vars_mem ht hv
theorem flat_getR {l : List BindD} (h : Flat l) (v : ByteArray) : (getR l v).1.v = false := by
  unfold getR
  cases e : getB l v with
  | none => rfl
  | some t => exact (h.get e).1
theorem bindable_flat {l : List BindD} (h : Flat l) {p : AtomD} (hp : ∀ v ∈ varsA p, v ≠ emp) : bindableD l p = true := bindable_iff.2 fun v hv => ⟨hp v hv, flat_getR h v⟩
theorem vars_nee {p : AtomD} (h : checkD p = 0) : ∀ v ∈ varsA p, v ≠ emp := fun v hv => by
  obtain ⟨k, hk, rfl⟩ := List.getElem_of_mem hv
  exact vars_ne h k hk
theorem ext_pre {l m : List BindD} {p g : AtomD} (h : extD l p g = some m) : preD l p g = true ∧ extL l (argsN p) (argsN g) = some m := by
  unfold extD at h
  split at h
  · rename_i e; exact ⟨e, h⟩
  · cases h
theorem ext_flat {l m : List BindD} {p g : AtomD} (hl : Flat l) (h : extD l p g = some m) : ExtOk l m (argsN p) (argsN g) := by
  obtain ⟨h1, h2⟩ := ext_pre h
  obtain ⟨h3, h4, _, _⟩ := pre_iff.1 h1
  exact ext_ok hl (ground_iff.1 h4) (alike_len h3) h2
theorem ext_map {l m : List BindD} {p g : AtomD} (hl : Flat l) (h : extD l p g = some m) : (argsN p).map (subT m) = argsN g := by
  have E := ext_flat hl h
  have hlen := alike_len (pre_iff.1 (ext_pre h).1).1
  refine List.ext_getElem (by rw [List.length_map, hlen]) (fun i h1 h2 => ?_)
  rw [List.getElem_map]
  exact E.hit i (by simpa using h1) h2
theorem zeros_eq : ∀ {l m : List TermD}, zerosB l = true → zerosB m = true → l.length = m.length → l = m
  | [], [], _, _, _ => rfl
  | [], _ :: _, _, _, h => by simp at h
  | _ :: _, [], _, _, h => by simp at h
  | a :: l, b :: m, h1, h2, h => by
    unfold zerosB at h1 h2
    rw [List.all_cons, Bool.and_eq_true] at h1 h2
    rw [(eqT_iff _ _).1 h1.1, (eqT_iff _ _).1 h2.1, zeros_eq h1.2 h2.2 (by simpa using h)]
theorem make_atom {m : List BindD} {p g : AtomD} (hp : checkD p = 0) (hg : checkD g = 0) (h : extD [] p g = some m) : applyA m p = g := by
  obtain ⟨h1, h2, h3, _, _⟩ := alike_iff.1 (pre_iff.1 (ext_pre h).1).1
  refine AtomD.ext' h1 h2 h3 ?_
  rw [← List.take_append_drop (cntI (applyA m p).n) (argsD (applyA m p)), args_apply, args_rest, ← List.take_append_drop (cntI g.n) (argsD g)]
  rw [show ((argsD p).take (cntI p.n)).map (subT m) = (argsD g).take (cntI g.n) from ext_map Flat.nil h]
  congr 1
  refine zeros_eq (check_parts hp).2.2.2 (check_parts hg).2.2.2 ?_
  rw [List.length_drop, List.length_drop, h3]; rfl
theorem make_len {m : List BindD} {p g : AtomD} (h : extD [] p g = some m) : m.length = (varsA p).length := by
  obtain ⟨h1, h2⟩ := ext_pre h
  obtain ⟨h3, h4, _, _⟩ := pre_iff.1 h1
  exact ext_len [] Flat.nil (ground_iff.1 h4) (alike_len h3) h2 (fun s => by simp [getB]) rfl
theorem make_check {l m : List BindD} {p g : AtomD} (hl : Flat l) (h : extD l p g = some m) : checkB m = true := (ext_flat hl h).flat.check
theorem names_nee {a : AtomD} (h : checkD a = 0) {t : TermD} (ht : t ∈ argsN a) : t.name ≠ emp := termB_ne (List.all_eq_true.1 (check_parts h).2.2.1 t ht) termB_emp
theorem match_iff {p g : AtomD} (hp : checkD p = 0) (hg : checkD g = 0) : matchB p g = true ↔ groundD g = true ∧ underD g p = true := by
  unfold matchB
  constructor
  · intro h
    cases e : extD [] p g with
    | none => rw [e] at h; cases h
    | some m =>
      obtain ⟨h3, h4, _, _⟩ := pre_iff.1 (ext_pre e).1
      refine ⟨h4, under_iff.2 ⟨alike_symm h3, ?_⟩⟩
      rw [← ext_map Flat.nil e]
      exact cons_map _ (sub_cst m) _
  · rintro ⟨h1, h2⟩
    obtain ⟨h3, h4⟩ := under_iff.1 h2
    have hlen := alike_len (alike_symm h3)
    have hpre : preD [] p g = true := pre_iff.2 ⟨alike_symm h3, h1, by decide, bindable_flat Flat.nil (vars_nee hp)⟩
    unfold extD
    rw [if_pos hpre]
    have hm := cons_want hlen h4
    refine ext_some (wantN (argsN p) (argsN g)) (fun t ht => by unfold wantN; rw [ht]; rfl) Flat.nil (fun s t h => by simp [getB] at h) (ground_iff.1 h1) (fun t ht hv => ⟨names_nee hp ht, ?_⟩) hm
    have : wantN (argsN p) (argsN g) t ∈ (argsN p).map (wantN (argsN p) (argsN g)) := List.mem_map.2 ⟨t, ht, rfl⟩
    rw [hm] at this
    exact names_nee hg this
theorem match_made {p : AtomD} {l : List BindD} (hp : checkD p = 0) (hm : checkD (applyA l p) = 0) (hg : groundD (applyA l p) = true) : matchB p (applyA l p) = true := (match_iff hp hm).2 ⟨hg, under_apply hp l⟩
theorem match_under {p q a : AtomD} (hp : checkD p = 0) (hq : checkD q = 0) (ha : checkD a = 0) (h : underD p q = true) (k : matchB p a = true) : matchB q a = true := by
  obtain ⟨k1, k2⟩ := (match_iff hp ha).1 k
  exact (match_iff hq ha).2 ⟨k1, under_trans k2 h⟩
theorem match_ground {p a : AtomD} (h : matchB p a = true) : groundD a = true := by
  unfold matchB at h
  cases e : extD [] p a with
  | none => rw [e] at h; cases h
  | some m => exact (pre_iff.1 (ext_pre e).1).2.1
/-- no variable needs two values -/
def agreeB (l : List BindD) (b : BindD) : Bool := !(getR l b.v).2 || eqT (getR l b.v).1 b.t
def agreeL (l m : List BindD) : Bool := m.all (agreeB l)
theorem agree_iff {l : List BindD} {b : BindD} : agreeB l b = true ↔ ∀ t, getB l b.v = some t → t = b.t := by
  unfold agreeB getR
  cases e : getB l b.v with
  | none => simp
  | some t => simp [eqT_iff]
theorem get_of_sub {m : List BindD} {t u : TermD} (hv : t.v = true) (hu : u.v = false) (h : subT m t = u) : getB m t.name = some u := by
  unfold subT at h
  rw [if_pos hv] at h
  cases e : getB m t.name with
  | none => rw [e] at h; simp only [Option.getD_none] at h; rw [← h, hv] at hu; cases hu
  | some x => rw [e] at h; exact congrArg some h
theorem sub_same {l n : List BindD} {t u : TermD} (hu : u.v = false) (h : subT l t = u) (hk : ∀ s x, getB l s = some x → getB n s = some x) : subT n t = u := by
  cases hv : t.v with
  | false => rw [sub_const hv]; rw [sub_const hv] at h; exact h
  | true =>
    have := hk _ _ (get_of_sub hv hu h)
    unfold subT
    rw [if_pos hv, this]; rfl
theorem apply_same {l n : List BindD} {p g : AtomD} (hg : groundD g = true) (hl : (argsN p).map (subT l) = argsN g) (h : ∀ t ∈ argsN p, ∀ u, u.v = false → subT l t = u → subT n t = u) : applyA n p = applyA l p := by
  refine apply_ext rfl rfl rfl (fun i hi t u ht hu => ?_)
  obtain rfl : t = u := by rw [ht] at hu; injection hu
  by_cases hc : i < cntI p.n
  · rw [if_pos hc, if_pos hc]
    obtain ⟨h1, h2, h3⟩ := argsN_at hc
    have e : (argsN p)[i] = t := by
      rw [h3]
      rw [List.getElem?_eq_getElem h2] at ht
      injection ht
    have hm : t ∈ argsN p := by rw [← e]; exact List.getElem_mem h1
    refine h t hm _ ?_ rfl
    refine ground_iff.1 hg _ ?_
    rw [← hl]
    exact List.mem_map.2 ⟨t, hm, rfl⟩
  · rw [if_neg hc, if_neg hc]
def pickF (l m : List BindD) (t : TermD) : TermD := if t.v then (getB l t.name).getD (subT m t) else t
theorem extends_iff {p q g h : AtomD} {l m : List BindD} (e1 : extD [] p g = some l) (e2 : extD [] q h = some m) : (extD l q h).isSome = agreeL l m := by
  have E1 := ext_flat Flat.nil e1
  have E2 := ext_flat Flat.nil e2
  obtain ⟨p1, p2, p3, p4⟩ := pre_iff.1 (ext_pre e2).1
  have hgr := ground_iff.1 p2
  have hlen := alike_len p1
  rw [Bool.eq_iff_iff]
  unfold agreeL
  rw [List.all_eq_true]
  constructor
  · intro hs b hb
    rw [agree_iff]
    intro t ht
    cases e : extD l q h with
    | none => rw [e] at hs; cases hs
    | some n =>
      have E := ext_flat E1.flat e
      rcases E2.new b hb with hx | ⟨i, hi, hv, hn⟩
      · cases hx
      · have ki : i < (argsN h).length := by omega
        have hu := hgr _ (List.getElem_mem ki)
        have a1 := get_of_sub hv hu (E.hit i hi ki)
        have a2 := get_of_sub hv hu (E2.hit i hi ki)
        rw [hn] at a1 a2
        rw [E.keep _ _ ht] at a1
        rw [getB_of_mem E2.flat.asc hb] at a2
        injection a1 with a1
        injection a2 with a2
        rw [a1, a2]
  · intro ha
    have hpre : preD l q h = true := pre_iff.2 ⟨p1, p2, E1.flat.check, bindable_flat E1.flat (fun v hv => (bindable_iff.1 p4 v hv).1)⟩
    unfold extD
    rw [if_pos hpre]
    have key : ∀ i (hi : i < (argsN q).length) (ki : i < (argsN h).length), (argsN q)[i].v = true → getB m (argsN q)[i].name = some (argsN h)[i] := fun i hi ki hv => get_of_sub hv (hgr _ (List.getElem_mem ki)) (E2.hit i hi ki)
    have fx : ∀ i (hi : i < (argsN q).length) (ki : i < (argsN h).length), (pickF l m) (argsN q)[i] = (argsN h)[i] := fun i hi ki => by
      unfold pickF
      cases hv : (argsN q)[i].v with
      | false => rw [if_neg (by decide)]; have := E2.hit i hi ki; rw [sub_const hv] at this; exact this
      | true =>
        rw [if_pos rfl]
        cases e : getB l (argsN q)[i].name with
        | none => exact E2.hit i hi ki
        | some t => exact agree_iff.1 (ha _ (getB_mem (key i hi ki hv))) t e
    refine ext_some (pickF l m) (fun t ht => by unfold pickF; rw [if_neg (by rw [ht]; decide)]) E1.flat (fun s t hs => ?_) hgr (fun t ht hv => ?_) ?_
    · show (getB l s).getD (subT m ⟨true, s⟩) = t
      rw [hs]; rfl
    · refine ⟨(bindable_iff.1 p4 _ (vars_of ht hv)).1, ?_⟩
      obtain ⟨i, hi, rfl⟩ := List.getElem_of_mem ht
      rw [fx i hi (by omega)]
      exact (E2.flat.get (key i hi (by omega) hv)).2
    · refine List.ext_getElem (by rw [List.length_map, hlen]) (fun i h1 h2 => ?_)
      rw [List.getElem_map]
      exact fx i (by simpa using h1) h2
theorem extends_same {p q g h : AtomD} {l m n : List BindD} (e1 : extD [] p g = some l) (e2 : extD [] q h = some m) (e3 : extD l q h = some n) : applyA n p = applyA l p ∧ applyA n q = applyA m q := by
  have E1 := ext_flat Flat.nil e1
  have E2 := ext_flat Flat.nil e2
  have E3 := ext_flat E1.flat e3
  have g1 := (pre_iff.1 (ext_pre e1).1).2.1
  have g2 := (pre_iff.1 (ext_pre e2).1).2.1
  have m2 := ext_map Flat.nil e2
  have m3 := ext_map E1.flat e3
  refine ⟨apply_same g1 (ext_map Flat.nil e1) (fun t _ u hu hs => sub_same hu hs E3.keep), apply_same g2 m2 (fun t ht u hu hs => ?_)⟩
  rw [← hs]
  obtain ⟨i, hi, rfl⟩ := List.getElem_of_mem ht
  have a := congrArg (fun x => x[i]?) (m3.trans m2.symm)
  simp only [List.getElem?_map, List.getElem?_eq_getElem hi, Option.map_some, Option.some.injEq] at a
  exact a
end Go.Proofs.YtiokjjiakcbmhaaDoor
namespace Go.Proofs.YtiokjjiakcbmhaaDoor
open Go.RowKit

end Go.Proofs.YtiokjjiakcbmhaaDoor
namespace Go.Proofs.YtiokjjiakcbmhaaDoor
open Go.RowKit

theorem run_index_terms (t0 t1 t2 t3 : TermD) (k : Nat) (t : TermD) (ht : [t0, t1, t2, t3][k]? = some t) (w : World) :
    (Instr.index 25 (.agg #[.bool t0.v, .string t0.name, .bool t1.v, .string t1.name, .bool t2.v, .string t2.name, .bool t3.v, .string t3.name]) (.int .i64 k)).run Tryd.prog w = .ok (.agg #[.bool t.v, .string t.name]) w := by
  have h0 : ∀ (c0 c1 c2 c3 c4 c5 c6 c7 : Value) (w : World), (Instr.index 25 (.agg #[c0, c1, c2, c3, c4, c5, c6, c7]) (.int .i64 0)).run Tryd.prog w = .ok (.agg #[c0, c1]) w := fun _ _ _ _ _ _ _ _ _ => by kernel_rfl
  have h1 : ∀ (c0 c1 c2 c3 c4 c5 c6 c7 : Value) (w : World), (Instr.index 25 (.agg #[c0, c1, c2, c3, c4, c5, c6, c7]) (.int .i64 1)).run Tryd.prog w = .ok (.agg #[c2, c3]) w := fun _ _ _ _ _ _ _ _ _ => by kernel_rfl
  have h2 : ∀ (c0 c1 c2 c3 c4 c5 c6 c7 : Value) (w : World), (Instr.index 25 (.agg #[c0, c1, c2, c3, c4, c5, c6, c7]) (.int .i64 2)).run Tryd.prog w = .ok (.agg #[c4, c5]) w := fun _ _ _ _ _ _ _ _ _ => by kernel_rfl
  have h3 : ∀ (c0 c1 c2 c3 c4 c5 c6 c7 : Value) (w : World), (Instr.index 25 (.agg #[c0, c1, c2, c3, c4, c5, c6, c7]) (.int .i64 3)).run Tryd.prog w = .ok (.agg #[c6, c7]) w := fun _ _ _ _ _ _ _ _ _ => by kernel_rfl
  match k, ht with
  | 0, ht => simp at ht; subst ht; exact h0 _ _ _ _ _ _ _ _ w
  | 1, ht => simp at ht; subst ht; exact h1 _ _ _ _ _ _ _ _ w
  | 2, ht => simp at ht; subst ht; exact h2 _ _ _ _ _ _ _ _ w
  | 3, ht => simp at ht; subst ht; exact h3 _ _ _ _ _ _ _ _ w
  | k + 4, ht => simp at ht
theorem under_no {a p : AtomD} (h : alikeD a p = false) : underD a p = false := by unfold underD; rw [h]; rfl
theorem under_yes {a p : AtomD} (h : alikeD a p = true) (k : (List.range (cntI a.n)).all (fitB p a) = true) : underD a p = true := by unfold underD; rw [h, k]; rfl
theorem under_not {a p : AtomD} {i : Nat} (hi : i < cntI a.n) (h : fitB p a i = false) : underD a p = false := by
  unfold underD
  rw [Bool.and_eq_false_iff]
  refine .inr ?_
  rw [List.all_eq_false]
  exact ⟨i, List.mem_range.2 hi, by rw [h]; decide⟩
theorem range_succ {f : Nat → Bool} {k : Nat} (h : (List.range k).all f = true) (h2 : f k = true) : (List.range (k + 1)).all f = true := by
  rw [List.range_succ, List.all_append, h]; simp [h2]
theorem fit_const {p a : AtomD} {k : Nat} {t u : TermD} (ht : (argsD p)[k]? = some t) (hu : (argsD a)[k]? = some u) (hv : t.v = false) : fitB p a k = eqT t u := by
  unfold fitB wantN
  simp only [List.getD_eq_getElem?_getD, ht, hu, Option.getD_some]
  rw [hv]; rfl
theorem fit_var {p a : AtomD} {k : Nat} {t u x : TermD} (ht : (argsD p)[k]? = some t) (hu : (argsD a)[k]? = some u) (hx : (argsD a)[idxT (argsD p) t]? = some x) (hv : t.v = true) : fitB p a k = eqT x u := by
  unfold fitB wantN
  simp only [List.getD_eq_getElem?_getD, ht, hu, Option.getD_some]
  rw [hv, if_pos rfl, hx]
  rfl
theorem args_get (a : AtomD) (k : Nat) (hk : k < 4) : ∃ t, (argsD a)[k]? = some t := ⟨(argsD a)[k]'hk, List.getElem?_eq_getElem (h := hk)⟩
theorem TermAt.frozen {w : World} {b : Nat} {t : TermD} (h : TermAt w b t) (i : Nat) : w.frozen? ⟨b, i, none⟩ = false := by
  unfold TermAt at h
  simp [World.frozen?, h]
theorem set_term {w w' : World} {b : Nat} {t0 : TermD} (h : TermAt w b t0) (x : TermD) (hw : w' = (w.setCell ⟨b, 0, none⟩ (.bool x.v)).setCell ⟨b, 1, none⟩ (.string x.name)) : TermAt w' b x ∧ Below b w w' ∧ ∀ k, k ≠ b → w'.heap[k]? = w.heap[k]? := by
  subst hw
  have ho : ∀ k, k ≠ b → ((w.setCell ⟨b, 0, none⟩ (.bool x.v)).setCell ⟨b, 1, none⟩ (.string x.name)).heap[k]? = w.heap[k]? := fun k hk => by
    simp [World.setCell, Array.getElem?_modify, Ne.symm hk]
  refine ⟨?_, ⟨rfl, rfl, rfl, by simp, fun k hk => ho k (by omega)⟩, ho⟩
  unfold TermAt at h ⊢
  simp [World.setCell, Array.getElem?_modify, h]
theorem terms_at {w : World} {b : Nat} {a : AtomD} (h : AtomAt w b a) {k : Nat} {t : TermD} (hk : (argsD a)[k]? = some t) : w.cell? ⟨b, 3 + k * 2, none⟩ = some (.bool t.v) ∧ w.cell? ⟨b, 3 + k * 2 + 1, none⟩ = some (.string t.name) := by
  obtain ⟨hq, rfl⟩ := List.getElem?_eq_some_iff.1 hk
  obtain ⟨b', o', e, _, c1, c2⟩ := h.terms k hq
  injection e with e
  injection e with e1 e2
  subst e1 e2
  exact ⟨c1, c2⟩

end Go.Proofs.YtiokjjiakcbmhaaDoor
namespace Go.Proofs.YtiokjjiakcbmhaaDoor
open Go.RowKit

theorem extR_no {l : List BindD} {p g : AtomD} (h : preD l p g = false) : extR l p g = ([], false) := by
  have : extD l p g = none := by unfold extD; rw [if_neg (by rw [h]; decide)]
  unfold extR
  rw [this]; rfl
theorem extR_none {l : List BindD} {p g : AtomD} (hp : preD l p g = true) (h : extL l (argsN p) (argsN g) = none) : extR l p g = ([], false) := by
  have : extD l p g = none := by unfold extD; rw [if_pos hp]; exact h
  unfold extR
  rw [this]; rfl
theorem extR_some {l m : List BindD} {p g : AtomD} (hp : preD l p g = true) (h : extL l (argsN p) (argsN g) = some m) : extR l p g = (m, true) := by
  have : extD l p g = some m := by unfold extD; rw [if_pos hp]; exact h
  unfold extR
  rw [this]; rfl
theorem pre_no1 {l : List BindD} {p g : AtomD} (h : alikeD p g = false) : preD l p g = false := by unfold preD; rw [h]; rfl
theorem pre_no2 {l : List BindD} {p g : AtomD} (h : groundD g = false) : preD l p g = false := by unfold preD; rw [h]; simp
theorem pre_no3 {l : List BindD} {p g : AtomD} (h : checkB l = false) : preD l p g = false := by unfold preD; rw [h]; simp
theorem pre_no4 {l : List BindD} {p g : AtomD} (h : bindableD l p = false) : preD l p g = false := by unfold preD; rw [h]; simp
theorem drop_at {a : AtomD} {k : Nat} {t : TermD} (hk : k < cntI a.n) (ht : (argsD a)[k]? = some t) : (argsN a).drop k = t :: (argsN a).drop (k + 1) := by
  obtain ⟨h1, h2, h3⟩ := argsN_at hk
  rw [List.drop_eq_getElem_cons h1, h3]
  rw [List.getElem?_eq_getElem h2] at ht
  injection ht with ht
  rw [ht]
theorem extL_eq {m : List BindD} {t v : TermD} {ts us : List TermD} (h : eqT (subT m t) v = true) : extL m (t :: ts) (v :: us) = extL m ts us := by
  conv => lhs; unfold extL
  rw [if_pos h]
theorem extL_stop {m : List BindD} {t v : TermD} {ts us : List TermD} (h : eqT (subT m t) v = false) (k : (subT m t).v = false) : extL m (t :: ts) (v :: us) = none := by
  unfold extL
  rw [if_neg (by rw [h]; decide), if_pos k]
theorem extL_bind {m o : List BindD} {t v : TermD} {ts us : List TermD} (h : eqT (subT m t) v = false) (k : (subT m t).v = true) (hb : bindD m (subT m t).name v = (o, 0)) : extL m (t :: ts) (v :: us) = extL o ts us := by
  conv => lhs; unfold extL
  rw [if_neg (by rw [h]; decide), if_neg (by rw [k]; decide), if_pos (by rw [hb]), hb]
theorem extL_fail {m o : List BindD} {n : Int} {t v : TermD} {ts us : List TermD} (h : eqT (subT m t) v = false) (k : (subT m t).v = true) (hb : bindD m (subT m t).name v = (o, n)) (hn : n ≠ 0) : extL m (t :: ts) (v :: us) = none := by
  unfold extL
  rw [if_neg (by rw [h]; decide), if_neg (by rw [k]; decide), if_neg (by rw [hb]; exact hn)]
theorem extL_end {m : List BindD} {p g : AtomD} {k : Nat} (hk : cntI p.n ≤ k) : extL m ((argsN p).drop k) ((argsN g).drop k) = some m := by
  have : (argsN p).drop k = [] := List.drop_of_length_le (by rw [argsN_len]; exact hk)
  rw [this]; simp [extL]

theorem two_new {wB w6 : World} (h : Bel wB w6) (x y : TermD) : TermAt ((w6.alloc (.cells #[.bool x.v, .string x.name] 24)).alloc (.cells #[.bool y.v, .string y.name] 24)) w6.heap.size x ∧ TermAt ((w6.alloc (.cells #[.bool x.v, .string x.name] 24)).alloc (.cells #[.bool y.v, .string y.name] 24)) (w6.heap.size + 1) y ∧ Bel wB ((w6.alloc (.cells #[.bool x.v, .string x.name] 24)).alloc (.cells #[.bool y.v, .string y.name] 24)) := by
  have := TermAt.new (w6.alloc (.cells #[.bool x.v, .string x.name] 24)) y
  rw [show (w6.alloc (.cells #[.bool x.v, .string x.name] 24)).heap.size = w6.heap.size + 1 by simp] at this
  exact ⟨(TermAt.new w6 x).bel (bel_alloc _ _), this, (h.trans' (bel_alloc _ _)).trans' (bel_alloc _ _)⟩
theorem set_new {wB w6 : World} (h : Bel wB w6) {b : Nat} {z : TermD} (hz : TermAt w6 b z) (hb : wB.heap.size ≤ b) (x y : TermD) : TermAt (((w6.setCell ⟨b, 0, none⟩ (.bool x.v)).setCell ⟨b, 1, none⟩ (.string x.name)).alloc (.cells #[.bool y.v, .string y.name] 24)) b x ∧ TermAt (((w6.setCell ⟨b, 0, none⟩ (.bool x.v)).setCell ⟨b, 1, none⟩ (.string x.name)).alloc (.cells #[.bool y.v, .string y.name] 24)) w6.heap.size y ∧ Bel wB (((w6.setCell ⟨b, 0, none⟩ (.bool x.v)).setCell ⟨b, 1, none⟩ (.string x.name)).alloc (.cells #[.bool y.v, .string y.name] 24)) := by
  obtain ⟨h1, h2, _⟩ := set_term hz x rfl
  have := TermAt.new ((w6.setCell ⟨b, 0, none⟩ (.bool x.v)).setCell ⟨b, 1, none⟩ (.string x.name)) y
  rw [show ((w6.setCell ⟨b, 0, none⟩ (.bool x.v)).setCell ⟨b, 1, none⟩ (.string x.name)).heap.size = w6.heap.size by simp] at this
  exact ⟨h1.bel (bel_alloc _ _), this, Below.trans (Below.trans h (h2.mono hb)) ((bel_alloc _ _).mono (by have := h.size; simp; omega))⟩
theorem set_set {wB w6 : World} (h : Bel wB w6) {b d : Nat} {z y0 : TermD} (hz : TermAt w6 b z) (hy : TermAt w6 d y0) (hb : wB.heap.size ≤ b) (hd : wB.heap.size ≤ d) (hne : d ≠ b) (x y : TermD) : TermAt ((((w6.setCell ⟨b, 0, none⟩ (.bool x.v)).setCell ⟨b, 1, none⟩ (.string x.name)).setCell ⟨d, 0, none⟩ (.bool y.v)).setCell ⟨d, 1, none⟩ (.string y.name)) b x ∧ TermAt ((((w6.setCell ⟨b, 0, none⟩ (.bool x.v)).setCell ⟨b, 1, none⟩ (.string x.name)).setCell ⟨d, 0, none⟩ (.bool y.v)).setCell ⟨d, 1, none⟩ (.string y.name)) d y ∧ Bel wB ((((w6.setCell ⟨b, 0, none⟩ (.bool x.v)).setCell ⟨b, 1, none⟩ (.string x.name)).setCell ⟨d, 0, none⟩ (.bool y.v)).setCell ⟨d, 1, none⟩ (.string y.name)) := by
  obtain ⟨h1, h2, h3⟩ := set_term hz x rfl
  obtain ⟨k1, k2, k3⟩ := set_term (w := (w6.setCell ⟨b, 0, none⟩ (.bool x.v)).setCell ⟨b, 1, none⟩ (.string x.name)) ((h3 d hne).trans hy) y rfl
  exact ⟨(k3 b hne.symm).trans h1, k1, Below.trans (Below.trans h (h2.mono hb)) (k2.mono hd)⟩
end Go.Proofs.YtiokjjiakcbmhaaDoor
