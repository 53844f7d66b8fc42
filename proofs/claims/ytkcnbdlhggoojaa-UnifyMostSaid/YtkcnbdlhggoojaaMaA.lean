/-
  Matching as lists: which bindings extend given ones, which atoms are under others. No condition.
-/
import Derived.Test.YtkcnbdlhggoojaaSbG1
import Derived.Test.YtkcnbdlhggoojaaSbY1
namespace Go.Proofs.Ytkcnbdlhggoojaa
open Go.RowKit

def argsN (a : AtomD) : List TermD := (argsD a).take (cntI a.n)
theorem argsN_len (a : AtomD) : (argsN a).length = cntI a.n := by
  have := cntI_le a.n
  unfold argsN
  rw [List.length_take]; show min _ 4 = _; omega
def alikeD (a b : AtomD) : Bool := (a.says.toList == b.says.toList) && ((a.pred.toList == b.pred.toList) && ((a.n == b.n) && (decide (0 ≤ a.n) && decide (a.n ≤ 4))))
theorem alike_iff {a b : AtomD} : alikeD a b = true ↔ a.says = b.says ∧ a.pred = b.pred ∧ a.n = b.n ∧ 0 ≤ a.n ∧ a.n ≤ 4 := by
  have e : ∀ x y : ByteArray, (x.toList == y.toList) = true ↔ x = y := fun x y => ⟨fun h => ba_ext (eq_of_beq h), fun h => by rw [h]; simp⟩
  unfold alikeD
  simp only [Bool.and_eq_true, e, beq_iff_eq, decide_eq_true_eq]
theorem alike_symm {a b : AtomD} (h : alikeD a b = true) : alikeD b a = true := by
  obtain ⟨h1, h2, h3, h4, h5⟩ := alike_iff.1 h
  exact alike_iff.2 ⟨h1.symm, h2.symm, h3.symm, by rw [← h3]; exact h4, by rw [← h3]; exact h5⟩
theorem alike_trans {a b c : AtomD} (h : alikeD a b = true) (k : alikeD b c = true) : alikeD a c = true := by
  obtain ⟨h1, h2, h3, h4, h5⟩ := alike_iff.1 h
  obtain ⟨k1, k2, k3, _, _⟩ := alike_iff.1 k
  exact alike_iff.2 ⟨h1.trans k1, h2.trans k2, h3.trans k3, h4, h5⟩
theorem alike_len {a b : AtomD} (h : alikeD a b = true) : (argsN a).length = (argsN b).length := by
  rw [argsN_len, argsN_len, (alike_iff.1 h).2.2.1]
/-- no variable that stands for a constant is without a name, or bound to a variable -/
def stuckB (l : List BindD) (v : ByteArray) : Bool := decide (v = emp) || (getR l v).1.v
def bindableD (l : List BindD) (p : AtomD) : Bool := !((varsA p).any (stuckB l))
def extL : List BindD → List TermD → List TermD → Option (List BindD)
  | m, t :: ts, u :: us =>
    if eqT (subT m t) u = true then extL m ts us
    else if (subT m t).v = false then none
    else if (bindD m (subT m t).name u).2 = 0 then extL (bindD m (subT m t).name u).1 ts us
    else none
  | m, [], _ => some m
  | m, _ :: _, [] => some m
def preD (l : List BindD) (p g : AtomD) : Bool := alikeD p g && (groundD g && (checkB l && bindableD l p))
def extD (l : List BindD) (p g : AtomD) : Option (List BindD) := if preD l p g = true then extL l (argsN p) (argsN g) else none
def extR (l : List BindD) (p g : AtomD) : List BindD × Bool := ((extD l p g).getD [], (extD l p g).isSome)
def matchB (p g : AtomD) : Bool := (extD [] p g).isSome

def idxT (l : List TermD) (t : TermD) : Nat := l.findIdx (fun x => eqT t x)
/-- what makes the terms ts those of us: constants are equal, equal variables have equal ones -/
def Cons (ts us : List TermD) : Prop := ∀ i j (hi : i < ts.length) (hj : j < ts.length) (ki : i < us.length) (kj : j < us.length), (ts[i].v = false → us[i] = ts[i]) ∧ (ts[i].v = true → ts[i] = ts[j] → us[i] = us[j])
theorem cons_refl (ts : List TermD) : Cons ts ts := fun _ _ _ _ _ _ => ⟨fun _ => rfl, fun _ e => e⟩
theorem cons_trans {ts us vs : List TermD} (h1 : ts.length = us.length) (h2 : us.length = vs.length) (h : Cons ts us) (k : Cons us vs) : Cons ts vs := fun i j hi hj ki kj => by
  have a := h i j hi hj (by omega) (by omega)
  have b := k i j (by omega) (by omega) ki kj
  have b2 := k j i (by omega) (by omega) kj ki
  refine ⟨fun hc => ?_, fun hv he => ?_⟩
  · have e := a.1 hc
    rw [← e]
    exact b.1 (by rw [e]; exact hc)
  · have e := a.2 hv he
    cases hu : us[i].v with
    | true => exact b.2 hu e
    | false => rw [b.1 hu, b2.1 (by rw [← e]; exact hu), e]
theorem cons_map (f : TermD → TermD) (hf : ∀ t, t.v = false → f t = t) (ts : List TermD) : Cons ts (ts.map f) := fun i j hi hj ki kj => by
  rw [List.getElem_map, List.getElem_map]
  exact ⟨fun h => hf _ h, fun _ e => by rw [e]⟩
theorem sub_cst (l : List BindD) (t : TermD) (h : t.v = false) : subT l t = t := sub_const h

/-- bindings to constants alone -/
structure Flat (m : List BindD) : Prop where
  asc : Asc m
  cst : ∀ b ∈ m, b.t.v = false ∧ b.t.name ≠ emp
theorem Flat.nil : Flat [] := ⟨asc_nil, fun b h => by cases h⟩
theorem Flat.check {m : List BindD} (h : Flat m) : checkB m = true := checkB_iff.2 ⟨h.asc, fun b hb => ⟨(h.cst b hb).2, fun k => by rw [(h.cst b hb).1] at k; cases k⟩⟩
theorem Flat.get {m : List BindD} (h : Flat m) {v : ByteArray} {t : TermD} (e : getB m v = some t) : t.v = false ∧ t.name ≠ emp := h.cst _ (getB_mem e)
theorem Flat.sub {m : List BindD} (h : Flat m) {t : TermD} : (getB m t.name = none ∧ subT m t = t) ∨ (subT m t).v = false := by
  unfold subT
  cases hv : t.v with
  | false => rw [if_neg (by decide)]; exact .inr hv
  | true =>
    rw [if_pos rfl]
    cases e : getB m t.name with
    | none => exact .inl ⟨rfl, rfl⟩
    | some u => exact .inr (h.get e).1
theorem Flat.bind {m : List BindD} (h : Flat m) {v : ByteArray} {u n : TermD} {o : List BindD} (hu : u.v = false) (hn : n = u) (hb : bindD m v n = (o, 0)) :
    Flat o ∧ v ≠ emp ∧ u.name ≠ emp ∧ getB m v = none ∧ o.length = m.length + 1 ∧ ∀ s, getB o s = if s = v then some u else getB m s := by
  subst hn
  obtain ⟨hv, hne, hnb, hs, ho⟩ := bind_facts h.check hb
  have hsu : subT m n = n := sub_const hu
  have hg := bind_get h.check hb
  rw [hsu] at hg ho
  refine ⟨⟨bind_asc h.check hb, fun b hb2 => ?_⟩, hv, hne, hnb, ?_, fun s => ?_⟩
  · rw [ho] at hb2
    rcases putB_mem.1 hb2 with rfl | hb2
    · exact ⟨hu, hne⟩
    · obtain ⟨y, hy, rfl⟩ := List.mem_map.1 hb2
      obtain ⟨y1, y2⟩ := h.cst y hy
      simp only
      rw [sub_const y1]
      exact ⟨y1, y2⟩
  · rw [ho, putB_len, List.length_map]
  · rw [hg]
    split
    · rfl
    · cases e : getB m s with
      | none => rfl
      | some t => simp only [Option.map_some]; rw [sub_const (h.get e).1]
theorem Flat.bindOk {m : List BindD} (h : Flat m) {v : ByteArray} {u : TermD} (hu : u.v = false) (hv : v ≠ emp) (hn : u.name ≠ emp) (hb : getB m v = none) : (bindD m v u).2 = 0 := by
  have hs : subT m u = u := sub_const hu
  rw [bind_ok h.check (fun e => e.elim hv hn) (by rw [hb]; rfl) (by rw [hs]; unfold selfB; rw [hu]; rfl)]
theorem eqT_ff {a b : TermD} (h : ¬ eqT a b = true) : a ≠ b := fun e => h ((eqT_iff a b).2 e)

/-- what bindings that extend others do -/
structure ExtOk (m n : List BindD) (ts us : List TermD) : Prop where
  flat : Flat n
  keep : ∀ s t, getB m s = some t → getB n s = some t
  hit : ∀ i (hi : i < ts.length) (ki : i < us.length), subT n ts[i] = us[i]
  new : ∀ b ∈ n, b ∈ m ∨ ∃ i, ∃ hi : i < ts.length, ts[i].v = true ∧ ts[i].name = b.v
theorem ext_ok : ∀ {ts us : List TermD} {m n : List BindD}, Flat m → (∀ u ∈ us, u.v = false) → ts.length = us.length → extL m ts us = some n → ExtOk m n ts us
  | [], us, m, n, hm, _, _, h => by
    obtain rfl : m = n := by simpa [extL] using h
    exact ⟨hm, fun _ _ e => e, fun i hi => by simp at hi, fun b hb => .inl hb⟩
  | t :: ts, [], _, _, _, _, hl, _ => by simp at hl
  | t :: ts, u :: us, m, n, hm, hu, hl, h => by
    have hl2 : ts.length = us.length := by simpa using hl
    have hus : ∀ x ∈ us, x.v = false := fun x hx => hu x (List.mem_cons_of_mem _ hx)
    have huv := hu u (List.mem_cons_self ..)
    unfold extL at h
    split at h
    · rename_i e
      have e := (eqT_iff _ _).1 e
      have E := ext_ok hm hus hl2 h
      refine ⟨E.flat, E.keep, fun i hi ki => ?_, fun b hb => ?_⟩
      · cases i with
        | succ i => exact E.hit i (by simpa using hi) (by simpa using ki)
        | zero =>
          show subT n t = u
          cases hv : t.v with
          | false => rw [sub_const hv]; rw [sub_const hv] at e; exact e
          | true =>
            unfold subT at e ⊢
            rw [if_pos hv] at e ⊢
            cases q : getB m t.name with
            | some x => rw [q] at e; rw [E.keep _ _ q]; exact e
            | none => rw [q] at e; simp only [Option.getD_none] at e; rw [← e, hv] at huv; cases huv
      · rcases E.new b hb with h1 | ⟨i, hi, h2, h3⟩
        · exact .inl h1
        · exact .inr ⟨i + 1, by simpa using hi, by simpa using h2, by simpa using h3⟩
    · rename_i hne
      split at h
      · cases h
      · rename_i hv
        split at h
        · rename_i hz
          rcases hm.sub (t := t) with ⟨q1, q2⟩ | q
          · rw [q2] at hv hz h
            have hv : t.v = true := by simpa using hv
            have hb : bindD m t.name u = ((bindD m t.name u).1, 0) := by rw [← hz]
            obtain ⟨f1, f2, f3, f4, f5, f6⟩ := hm.bind huv rfl hb
            have E := ext_ok f1 hus hl2 h
            refine ⟨E.flat, fun s x hx => E.keep _ _ ?_, fun i hi ki => ?_, fun b hb => ?_⟩
            · rw [f6, if_neg]
              · exact hx
              · intro e; subst e; rw [q1] at hx; cases hx
            · cases i with
              | succ i => exact E.hit i (by simpa using hi) (by simpa using ki)
              | zero =>
                show subT n t = u
                unfold subT
                rw [if_pos hv, E.keep t.name u (by rw [f6, if_pos rfl])]
                rfl
            · rcases E.new b hb with h1 | ⟨i, hi, h2, h3⟩
              · by_cases e : b.v = t.name
                · exact .inr ⟨0, by simp, by simpa using hv, by simpa using e.symm⟩
                · refine .inl ?_
                  have := getB_of_mem f1.asc h1
                  rw [f6, if_neg e] at this
                  exact getB_mem this
              · exact .inr ⟨i + 1, by simpa using hi, by simpa using h2, by simpa using h3⟩
          · rw [q] at hv; exact absurd rfl hv
        · cases h
theorem ext_len : ∀ {ts us : List TermD} {m n : List BindD} (vs : List ByteArray), Flat m → (∀ u ∈ us, u.v = false) → ts.length = us.length → extL m ts us = some n → (∀ s, s ∈ vs ↔ (getB m s).isSome = true) → m.length = vs.length → n.length = (ts.foldl (stepN true) vs).length
  | [], us, m, n, vs, _, _, _, h, _, hl => by
    obtain rfl : m = n := by simpa [extL] using h
    exact hl
  | t :: ts, [], _, _, _, _, _, hl, _, _, _ => by simp at hl
  | t :: ts, u :: us, m, n, vs, hm, hu, hl, h, hvs, hlen => by
    have hl2 : ts.length = us.length := by simpa using hl
    have hus : ∀ x ∈ us, x.v = false := fun x hx => hu x (List.mem_cons_of_mem _ hx)
    have huv := hu u (List.mem_cons_self ..)
    rw [List.foldl_cons]
    unfold extL at h
    split at h
    · rename_i e
      have e := (eqT_iff _ _).1 e
      have E := ext_len vs hm hus hl2 h hvs hlen
      have hst : stepN true vs t = vs := by
        unfold stepN
        cases hv : t.v with
        | false => simp
        | true =>
          have : Lib.containsS vs t.name = true := hasS_true ((hvs _).2 (by
            unfold subT at e
            rw [if_pos hv] at e
            cases q : getB m t.name with
            | some x => rfl
            | none => rw [q] at e; simp only [Option.getD_none] at e; rw [← e, hv] at huv; cases huv))
          rw [this]; simp
      rw [hst]; exact E
    · rename_i hne
      split at h
      · cases h
      · rename_i hv
        split at h
        · rename_i hz
          rcases hm.sub (t := t) with ⟨q1, q2⟩ | q
          · rw [q2] at hv hz h
            have hv : t.v = true := by simpa using hv
            have hb : bindD m t.name u = ((bindD m t.name u).1, 0) := by rw [← hz]
            obtain ⟨f1, f2, f3, f4, f5, f6⟩ := hm.bind huv rfl hb
            have hst : stepN true vs t = vs ++ [t.name] := by
              unfold stepN
              have : Lib.containsS vs t.name = false := hasS_false (fun hx => by rw [hvs, q1] at hx; cases hx)
              rw [this, hv]; rfl
            rw [hst]
            refine ext_len (vs ++ [t.name]) f1 hus hl2 h (fun s => ?_) (by rw [f5, hlen]; simp)
            rw [f6, List.mem_append, hvs, List.mem_singleton]
            by_cases e : s = t.name
            · rw [if_pos e]; simp [e]
            · rw [if_neg e]; simp [e]
          · rw [q] at hv; exact absurd rfl hv
        · cases h
/-- where one reading of the variables makes the terms those, bindings are found -/
theorem ext_some (f : TermD → TermD) (hf : ∀ t, t.v = false → f t = t) : ∀ {ts us : List TermD} {m : List BindD}, Flat m → (∀ s t, getB m s = some t → f ⟨true, s⟩ = t) → (∀ u ∈ us, u.v = false) → (∀ t ∈ ts, t.v = true → t.name ≠ emp ∧ (f t).name ≠ emp) → ts.map f = us → (extL m ts us).isSome = true
  | [], us, m, _, _, _, _, _ => by simp [extL]
  | t :: ts, us, m, hm, hk, hu, hn, he => by
    subst he
    rw [List.map_cons] at hu ⊢
    have hus : ∀ x ∈ ts.map f, x.v = false := fun x hx => hu x (List.mem_cons_of_mem _ hx)
    have huv := hu (f t) (List.mem_cons_self ..)
    have hns : ∀ t ∈ ts, t.v = true → t.name ≠ emp ∧ (f t).name ≠ emp := fun x hx => hn x (List.mem_cons_of_mem _ hx)
    unfold extL
    split
    · exact ext_some f hf hm hk hus hns rfl
    · rename_i hne
      have hne := eqT_ff hne
      cases hv : t.v with
      | false => rw [sub_const hv, hf t hv] at hne; exact absurd rfl hne
      | true =>
        obtain ⟨n1, n2⟩ := hn t (List.mem_cons_self ..) hv
        have ht : t = ⟨true, t.name⟩ := TermD.ext' hv rfl
        cases q : getB m t.name with
        | some x =>
          have h1 := hk _ _ q
          rw [← ht] at h1
          have : subT m t = x := by unfold subT; rw [if_pos hv, q]; rfl
          rw [this, h1] at hne
          exact absurd rfl hne
        | none =>
          have hs : subT m t = t := by unfold subT; rw [if_pos hv, q]; rfl
          rw [hs, if_neg (by rw [hv]; decide)]
          have hz := hm.bindOk huv n1 n2 q
          rw [if_pos hz]
          have hb : bindD m t.name (f t) = ((bindD m t.name (f t)).1, 0) := by rw [← hz]
          obtain ⟨f1, f2, f3, f4, f5, f6⟩ := hm.bind huv rfl hb
          refine ext_some f hf f1 (fun s x hx => ?_) hus hns rfl
          rw [f6] at hx
          split at hx
          · rename_i e
            injection hx with hx
            rw [e, ← ht, hx]
          · exact hk _ _ hx
end Go.Proofs.Ytkcnbdlhggoojaa
