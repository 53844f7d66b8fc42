/-
  What matching makes, when bindings extend, what being under is: for valid atoms. No condition.
-/
import Derived.Test.YtkcnbdlhggoojaaMaA
namespace Go.Proofs.Ytkcnbdlhggoojaa
open Go.RowKit

def wantN (ts us : List TermD) (t : TermD) : TermD := if t.v then us.getD (idxT ts t) zeroT else t
/-- at place i the atom a has what the pattern p wants -/
def fitB (p a : AtomD) (i : Nat) : Bool := eqT (wantN (argsD p) (argsD a) ((argsD p).getD i zeroT)) ((argsD a).getD i zeroT)
def underD (a p : AtomD) : Bool := alikeD a p && (List.range (cntI a.n)).all (fitB p a)
theorem idx_hit {l : List TermD} {i : Nat} (hi : i < l.length) : ∃ h : idxT l l[i] < l.length, idxT l l[i] ≤ i ∧ l[idxT l l[i]] = l[i] := by
  have h : idxT l l[i] < l.length := List.findIdx_lt_length.2 ⟨l[i], List.getElem_mem hi, (eqT_iff _ _).2 rfl⟩
  refine ⟨h, ?_, ((eqT_iff _ _).1 (List.findIdx_getElem (p := fun x => eqT l[i] x) (w := h))).symm⟩
  by_cases hlt : i < idxT l l[i]
  · have := List.not_of_lt_findIdx (p := fun x => eqT l[i] x) hlt
    rw [(eqT_iff _ _).2 rfl] at this
    cases this
  · omega
theorem getD_at {l : List TermD} {i : Nat} (h : i < l.length) : l.getD i zeroT = l[i] := by rw [List.getD_eq_getElem?_getD, List.getElem?_eq_getElem h]; rfl
theorem cons_want {ts us : List TermD} (hl : ts.length = us.length) (h : Cons ts us) : ts.map (wantN ts us) = us := by
  refine List.ext_getElem (by rw [List.length_map, hl]) (fun i h1 h2 => ?_)
  rw [List.length_map] at h1
  rw [List.getElem_map]
  unfold wantN
  obtain ⟨g1, g2, g3⟩ := idx_hit h1
  have a := h _ i g1 h1 (by omega) h2
  have b := h i i h1 h1 h2 h2
  cases hv : ts[i].v with
  | false => rw [if_neg (by decide)]; exact (b.1 hv).symm
  | true => rw [if_pos rfl, getD_at (by omega)]; exact a.2 (by rw [g3]; exact hv) g3
theorem argsN_at {a : AtomD} {i : Nat} (h : i < cntI a.n) : ∃ (h1 : i < (argsN a).length) (h2 : i < (argsD a).length), (argsN a)[i] = (argsD a)[i] := by
  have := cntI_le a.n
  exact ⟨by rw [argsN_len]; exact h, by show i < 4; omega, by unfold argsN; rw [List.getElem_take]⟩
theorem under_iff {a p : AtomD} : underD a p = true ↔ alikeD a p = true ∧ Cons (argsN p) (argsN a) := by
  unfold underD
  rw [Bool.and_eq_true, List.all_eq_true]
  constructor
  · rintro ⟨ha, h⟩
    refine ⟨ha, ?_⟩
    have hn : cntI a.n = cntI p.n := by rw [(alike_iff.1 ha).2.2.1]
    have key : ∀ i (hi : i < (argsN p).length) (ki : i < (argsN a).length), wantN (argsD p) (argsD a) (argsN p)[i] = (argsN a)[i] := fun i hi ki => by
      rw [argsN_len] at hi ki
      obtain ⟨h1, h2, h3⟩ := argsN_at hi
      obtain ⟨k1, k2, k3⟩ := argsN_at ki
      have := (eqT_iff _ _).1 (h i (List.mem_range.2 ki))
      rw [getD_at h2, getD_at k2] at this
      rw [h3, k3]; exact this
    intro i j hi hj ki kj
    have e1 := key i hi ki
    have e2 := key j hj kj
    refine ⟨fun hv => ?_, fun hv e => ?_⟩
    · rw [← e1]; unfold wantN; rw [hv]; rfl
    · rw [← e1, ← e2, e]
  · rintro ⟨ha, h⟩
    refine ⟨ha, fun i hi => ?_⟩
    have hi := List.mem_range.1 hi
    have hn : cntI a.n = cntI p.n := by rw [(alike_iff.1 ha).2.2.1]
    have hi2 : i < cntI p.n := by rw [← hn]; exact hi
    obtain ⟨h1, h2, h3⟩ := argsN_at hi2
    obtain ⟨k1, k2, k3⟩ := argsN_at hi
    unfold fitB
    rw [eqT_iff, getD_at h2, getD_at k2]
    unfold wantN
    cases hv : (argsD p)[i].v with
    | false =>
      rw [if_neg (by decide), ← h3, ← k3]
      exact ((h i i h1 h1 k1 k1).1 (by rw [h3]; exact hv)).symm
    | true =>
      obtain ⟨g1, g2, g3⟩ := idx_hit h2
      obtain ⟨m1, m2, m3⟩ := argsN_at (a := p) (i := idxT (argsD p) (argsD p)[i]) (by omega)
      obtain ⟨n1, n2, n3⟩ := argsN_at (a := a) (i := idxT (argsD p) (argsD p)[i]) (by omega)
      rw [if_pos rfl]
      refine (getD_at n2).trans ?_
      rw [← n3, ← k3]
      have e := m3.trans (g3.trans h3.symm)
      exact (h _ i m1 h1 n1 k1).2 ((congrArg TermD.v (e.trans h3)).trans hv) e
theorem under_trans {a b c : AtomD} (h : underD a b = true) (k : underD b c = true) : underD a c = true := by
  obtain ⟨h1, h2⟩ := under_iff.1 h
  obtain ⟨k1, k2⟩ := under_iff.1 k
  exact under_iff.2 ⟨alike_trans h1 k1, cons_trans (alike_len (alike_symm k1)) (alike_len (alike_symm h1)) k2 h2⟩
theorem check_n {a : AtomD} (h : checkD a = 0) : 0 ≤ a.n ∧ a.n ≤ 4 := by
  have := (check_parts h).2.1
  omega
theorem alike_self {a : AtomD} (h : checkD a = 0) : alikeD a a = true := alike_iff.2 ⟨rfl, rfl, rfl, (check_n h).1, (check_n h).2⟩
theorem under_refl {a : AtomD} (h : checkD a = 0) : underD a a = true := under_iff.2 ⟨alike_self h, cons_refl _⟩
theorem under_apply {a : AtomD} (h : checkD a = 0) (l : List BindD) : underD (applyA l a) a = true := by
  refine under_iff.2 ⟨alike_iff.2 ⟨rfl, rfl, rfl, (check_n h).1, (check_n h).2⟩, ?_⟩
  rw [show argsN (applyA l a) = (argsN a).map (subT l) from args_apply l a]
  exact cons_map _ (sub_cst l) _
theorem ground_iff {g : AtomD} : groundD g = true ↔ ∀ u ∈ argsN g, u.v = false := by
  show (argsN g).all (fun t => !t.v) = true ↔ _
  rw [List.all_eq_true]
  exact ⟨fun h u hu => by simpa using h u hu, fun h u hu => by simpa using h u hu⟩
theorem pre_iff {l : List BindD} {p g : AtomD} : preD l p g = true ↔ alikeD p g = true ∧ groundD g = true ∧ checkB l = true ∧ bindableD l p = true := by
  unfold preD
  rw [Bool.and_eq_true, Bool.and_eq_true, Bool.and_eq_true]
theorem bindable_iff {l : List BindD} {p : AtomD} : bindableD l p = true ↔ ∀ v ∈ varsA p, v ≠ emp ∧ (getR l v).1.v = false := by
  unfold bindableD
  rw [Bool.not_eq_true', List.any_eq_false]
  unfold stuckB
  constructor
  · intro h v hv
    have := h v hv
    simp only [Bool.or_eq_true, decide_eq_true_eq, not_or, Bool.not_eq_true] at this
    exact this
  · intro h v hv
    simp only [Bool.or_eq_true, decide_eq_true_eq, not_or, Bool.not_eq_true]
    exact h v hv
theorem vars_of {p : AtomD} {t : TermD} (ht : t ∈ argsN p) (hv : t.v = true) : t.name ∈ varsA p := vars_mem ht hv
theorem flat_getR {l : List BindD} (h : Flat l) (v : ByteArray) : (getR l v).1.v = false := by
  unfold getR
  cases e : getB l v with
  | none => rfl
  | some t => exact (h.get e).1
theorem bindable_flat {l : List BindD} (h : Flat l) {p : AtomD} (hp : ∀ v ∈ varsA p, v ≠ emp) : bindableD l p = true := bindable_iff.2 fun v hv => ⟨hp v hv, flat_getR h v⟩
theorem vars_nee {p : AtomD} (h : checkD p = 0) : ∀ v ∈ varsA p, v ≠ emp := fun v hv => by
  obtain ⟨k, hk, rfl⟩ := List.getElem_of_mem hv
  exact vars_ne h k hk
theorem ext_pre {l m : List BindD} {p g : AtomD} (h : extD l p g = some m) : preD l p g = true ∧ extL l (argsN p) (argsN g) = some m := by
  unfold extD at h
  split at h
  · rename_i e; exact ⟨e, h⟩
  · cases h
theorem ext_flat {l m : List BindD} {p g : AtomD} (hl : Flat l) (h : extD l p g = some m) : ExtOk l m (argsN p) (argsN g) := by
  obtain ⟨h1, h2⟩ := ext_pre h
  obtain ⟨h3, h4, _, _⟩ := pre_iff.1 h1
  exact ext_ok hl (ground_iff.1 h4) (alike_len h3) h2
theorem ext_map {l m : List BindD} {p g : AtomD} (hl : Flat l) (h : extD l p g = some m) : (argsN p).map (subT m) = argsN g := by
  have E := ext_flat hl h
  have hlen := alike_len (pre_iff.1 (ext_pre h).1).1
  refine List.ext_getElem (by rw [List.length_map, hlen]) (fun i h1 h2 => ?_)
  rw [List.getElem_map]
  exact E.hit i (by simpa using h1) h2
theorem zeros_eq : ∀ {l m : List TermD}, zerosB l = true → zerosB m = true → l.length = m.length → l = m
  | [], [], _, _, _ => rfl
  | [], _ :: _, _, _, h => by simp at h
  | _ :: _, [], _, _, h => by simp at h
  | a :: l, b :: m, h1, h2, h => by
    unfold zerosB at h1 h2
    rw [List.all_cons, Bool.and_eq_true] at h1 h2
    rw [(eqT_iff _ _).1 h1.1, (eqT_iff _ _).1 h2.1, zeros_eq h1.2 h2.2 (by simpa using h)]
theorem make_atom {m : List BindD} {p g : AtomD} (hp : checkD p = 0) (hg : checkD g = 0) (h : extD [] p g = some m) : applyA m p = g := by
  obtain ⟨h1, h2, h3, _, _⟩ := alike_iff.1 (pre_iff.1 (ext_pre h).1).1
  refine AtomD.ext' h1 h2 h3 ?_
  rw [← List.take_append_drop (cntI (applyA m p).n) (argsD (applyA m p)), args_apply, args_rest, ← List.take_append_drop (cntI g.n) (argsD g)]
  rw [show ((argsD p).take (cntI p.n)).map (subT m) = (argsD g).take (cntI g.n) from ext_map Flat.nil h]
  congr 1
  refine zeros_eq (check_parts hp).2.2.2 (check_parts hg).2.2.2 ?_
  rw [List.length_drop, List.length_drop, h3]; rfl
theorem make_len {m : List BindD} {p g : AtomD} (h : extD [] p g = some m) : m.length = (varsA p).length := by
  obtain ⟨h1, h2⟩ := ext_pre h
  obtain ⟨h3, h4, _, _⟩ := pre_iff.1 h1
  exact ext_len [] Flat.nil (ground_iff.1 h4) (alike_len h3) h2 (fun s => by simp [getB]) rfl
theorem make_check {l m : List BindD} {p g : AtomD} (hl : Flat l) (h : extD l p g = some m) : checkB m = true := (ext_flat hl h).flat.check
theorem names_nee {a : AtomD} (h : checkD a = 0) {t : TermD} (ht : t ∈ argsN a) : t.name ≠ emp := termB_ne (List.all_eq_true.1 (check_parts h).2.2.1 t ht) termB_emp
theorem match_iff {p g : AtomD} (hp : checkD p = 0) (hg : checkD g = 0) : matchB p g = true ↔ groundD g = true ∧ underD g p = true := by
  unfold matchB
  constructor
  · intro h
    cases e : extD [] p g with
    | none => rw [e] at h; cases h
    | some m =>
      obtain ⟨h3, h4, _, _⟩ := pre_iff.1 (ext_pre e).1
      refine ⟨h4, under_iff.2 ⟨alike_symm h3, ?_⟩⟩
      rw [← ext_map Flat.nil e]
      exact cons_map _ (sub_cst m) _
  · rintro ⟨h1, h2⟩
    obtain ⟨h3, h4⟩ := under_iff.1 h2
    have hlen := alike_len (alike_symm h3)
    have hpre : preD [] p g = true := pre_iff.2 ⟨alike_symm h3, h1, by decide, bindable_flat Flat.nil (vars_nee hp)⟩
    unfold extD
    rw [if_pos hpre]
    have hm := cons_want hlen h4
    refine ext_some (wantN (argsN p) (argsN g)) (fun t ht => by unfold wantN; rw [ht]; rfl) Flat.nil (fun s t h => by simp [getB] at h) (ground_iff.1 h1) (fun t ht hv => ⟨names_nee hp ht, ?_⟩) hm
    have : wantN (argsN p) (argsN g) t ∈ (argsN p).map (wantN (argsN p) (argsN g)) := List.mem_map.2 ⟨t, ht, rfl⟩
    rw [hm] at this
    exact names_nee hg this
theorem match_made {p : AtomD} {l : List BindD} (hp : checkD p = 0) (hm : checkD (applyA l p) = 0) (hg : groundD (applyA l p) = true) : matchB p (applyA l p) = true := (match_iff hp hm).2 ⟨hg, under_apply hp l⟩
theorem match_under {p q a : AtomD} (hp : checkD p = 0) (hq : checkD q = 0) (ha : checkD a = 0) (h : underD p q = true) (k : matchB p a = true) : matchB q a = true := by
  obtain ⟨k1, k2⟩ := (match_iff hp ha).1 k
  exact (match_iff hq ha).2 ⟨k1, under_trans k2 h⟩
theorem match_ground {p a : AtomD} (h : matchB p a = true) : groundD a = true := by
  unfold matchB at h
  cases e : extD [] p a with
  | none => rw [e] at h; cases h
  | some m => exact (pre_iff.1 (ext_pre e).1).2.1
/-- no variable needs two values -/
def agreeB (l : List BindD) (b : BindD) : Bool := !(getR l b.v).2 || eqT (getR l b.v).1 b.t
def agreeL (l m : List BindD) : Bool := m.all (agreeB l)
theorem agree_iff {l : List BindD} {b : BindD} : agreeB l b = true ↔ ∀ t, getB l b.v = some t → t = b.t := by
  unfold agreeB getR
  cases e : getB l b.v with
  | none => simp
  | some t => simp [eqT_iff]
theorem get_of_sub {m : List BindD} {t u : TermD} (hv : t.v = true) (hu : u.v = false) (h : subT m t = u) : getB m t.name = some u := by
  unfold subT at h
  rw [if_pos hv] at h
  cases e : getB m t.name with
  | none => rw [e] at h; simp only [Option.getD_none] at h; rw [← h, hv] at hu; cases hu
  | some x => rw [e] at h; exact congrArg some h
theorem sub_same {l n : List BindD} {t u : TermD} (hu : u.v = false) (h : subT l t = u) (hk : ∀ s x, getB l s = some x → getB n s = some x) : subT n t = u := by
  cases hv : t.v with
  | false => rw [sub_const hv]; rw [sub_const hv] at h; exact h
  | true =>
    have := hk _ _ (get_of_sub hv hu h)
    unfold subT
    rw [if_pos hv, this]; rfl
theorem apply_same {l n : List BindD} {p g : AtomD} (hg : groundD g = true) (hl : (argsN p).map (subT l) = argsN g) (h : ∀ t ∈ argsN p, ∀ u, u.v = false → subT l t = u → subT n t = u) : applyA n p = applyA l p := by
  refine apply_ext rfl rfl rfl (fun i hi t u ht hu => ?_)
  obtain rfl : t = u := by rw [ht] at hu; injection hu
  by_cases hc : i < cntI p.n
  · rw [if_pos hc, if_pos hc]
    obtain ⟨h1, h2, h3⟩ := argsN_at hc
    have e : (argsN p)[i] = t := by
      rw [h3]
      rw [List.getElem?_eq_getElem h2] at ht
      injection ht
    have hm : t ∈ argsN p := by rw [← e]; exact List.getElem_mem h1
    refine h t hm _ ?_ rfl
    refine ground_iff.1 hg _ ?_
    rw [← hl]
    exact List.mem_map.2 ⟨t, hm, rfl⟩
  · rw [if_neg hc, if_neg hc]
def pickF (l m : List BindD) (t : TermD) : TermD := if t.v then (getB l t.name).getD (subT m t) else t
theorem extends_iff {p q g h : AtomD} {l m : List BindD} (e1 : extD [] p g = some l) (e2 : extD [] q h = some m) : (extD l q h).isSome = agreeL l m := by
  have E1 := ext_flat Flat.nil e1
  have E2 := ext_flat Flat.nil e2
  obtain ⟨p1, p2, p3, p4⟩ := pre_iff.1 (ext_pre e2).1
  have hgr := ground_iff.1 p2
  have hlen := alike_len p1
  rw [Bool.eq_iff_iff]
  unfold agreeL
  rw [List.all_eq_true]
  constructor
  · intro hs b hb
    rw [agree_iff]
    intro t ht
    cases e : extD l q h with
    | none => rw [e] at hs; cases hs
    | some n =>
      have E := ext_flat E1.flat e
      rcases E2.new b hb with hx | ⟨i, hi, hv, hn⟩
      · cases hx
      · have ki : i < (argsN h).length := by omega
        have hu := hgr _ (List.getElem_mem ki)
        have a1 := get_of_sub hv hu (E.hit i hi ki)
        have a2 := get_of_sub hv hu (E2.hit i hi ki)
        rw [hn] at a1 a2
        rw [E.keep _ _ ht] at a1
        rw [getB_of_mem E2.flat.asc hb] at a2
        injection a1 with a1
        injection a2 with a2
        rw [a1, a2]
  · intro ha
    have hpre : preD l q h = true := pre_iff.2 ⟨p1, p2, E1.flat.check, bindable_flat E1.flat (fun v hv => (bindable_iff.1 p4 v hv).1)⟩
    unfold extD
    rw [if_pos hpre]
    have key : ∀ i (hi : i < (argsN q).length) (ki : i < (argsN h).length), (argsN q)[i].v = true → getB m (argsN q)[i].name = some (argsN h)[i] := fun i hi ki hv => get_of_sub hv (hgr _ (List.getElem_mem ki)) (E2.hit i hi ki)
    have fx : ∀ i (hi : i < (argsN q).length) (ki : i < (argsN h).length), (pickF l m) (argsN q)[i] = (argsN h)[i] := fun i hi ki => by
      unfold pickF
      cases hv : (argsN q)[i].v with
      | false => rw [if_neg (by decide)]; have := E2.hit i hi ki; rw [sub_const hv] at this; exact this
      | true =>
        rw [if_pos rfl]
        cases e : getB l (argsN q)[i].name with
        | none => exact E2.hit i hi ki
        | some t => exact agree_iff.1 (ha _ (getB_mem (key i hi ki hv))) t e
    refine ext_some (pickF l m) (fun t ht => by unfold pickF; rw [if_neg (by rw [ht]; decide)]) E1.flat (fun s t hs => ?_) hgr (fun t ht hv => ?_) ?_
    · show (getB l s).getD (subT m ⟨true, s⟩) = t
      rw [hs]; rfl
    · refine ⟨(bindable_iff.1 p4 _ (vars_of ht hv)).1, ?_⟩
      obtain ⟨i, hi, rfl⟩ := List.getElem_of_mem ht
      rw [fx i hi (by omega)]
      exact (E2.flat.get (key i hi (by omega) hv)).2
    · refine List.ext_getElem (by rw [List.length_map, hlen]) (fun i h1 h2 => ?_)
      rw [List.getElem_map]
      exact fx i (by simpa using h1) h2
theorem extends_same {p q g h : AtomD} {l m n : List BindD} (e1 : extD [] p g = some l) (e2 : extD [] q h = some m) (e3 : extD l q h = some n) : applyA n p = applyA l p ∧ applyA n q = applyA m q := by
  have E1 := ext_flat Flat.nil e1
  have E2 := ext_flat Flat.nil e2
  have E3 := ext_flat E1.flat e3
  have g1 := (pre_iff.1 (ext_pre e1).1).2.1
  have g2 := (pre_iff.1 (ext_pre e2).1).2.1
  have m2 := ext_map Flat.nil e2
  have m3 := ext_map E1.flat e3
  refine ⟨apply_same g1 (ext_map Flat.nil e1) (fun t _ u hu hs => sub_same hu hs E3.keep), apply_same g2 m2 (fun t ht u hu hs => ?_)⟩
  rw [← hs]
  obtain ⟨i, hi, rfl⟩ := List.getElem_of_mem ht
  have a := congrArg (fun x => x[i]?) (m3.trans m2.symm)
  simp only [List.getElem?_map, List.getElem?_eq_getElem hi, Option.map_some, Option.some.injEq] at a
  exact a
end Go.Proofs.Ytkcnbdlhggoojaa
