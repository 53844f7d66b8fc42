/-
  Atoms with a mark at their variables; what two atoms meet in. No condition.
-/
import Derived.Test.YtiokjjiakcbmhaaDoorUnA
import Derived.Test.YtiokjjiakcbmhaaDoorUgB
namespace Go.Proofs.YtiokjjiakcbmhaaDoor
open Go.RowKit

def mapA (f : TermD → TermD) (a : AtomD) : AtomD :=
  ⟨a.says, a.pred, a.n, if 0 < cntI a.n then f a.t0 else a.t0, if 1 < cntI a.n then f a.t1 else a.t1, if 2 < cntI a.n then f a.t2 else a.t2, if 3 < cntI a.n then f a.t3 else a.t3⟩
def renT (i : Nat) (t : TermD) : TermD := if t.v then ⟨true, t.name ++ tagD i⟩ else t
/-- an atom with a mark -/
def renD (a : AtomD) (i : Nat) : AtomD := mapA (renT i) a
theorem map_argsN (f : TermD → TermD) (a : AtomD) : argsN (mapA f a) = (argsN a).map f := by
  show ((argsD (mapA f a)).take (cntI a.n)) = ((argsD a).take (cntI a.n)).map f
  unfold mapA
  have := cntI_le a.n
  generalize cntI a.n = c at *
  match c, this with
  | 0, _ => rfl
  | 1, _ => rfl
  | 2, _ => rfl
  | 3, _ => rfl
  | 4, _ => rfl
  | c + 5, h => omega
theorem map_drop (f : TermD → TermD) (a : AtomD) : (argsD (mapA f a)).drop (cntI (mapA f a).n) = (argsD a).drop (cntI a.n) := by
  show ((argsD (mapA f a)).drop (cntI a.n)) = _
  unfold mapA
  have := cntI_le a.n
  generalize cntI a.n = c at *
  match c, this with
  | 0, _ => rfl
  | 1, _ => rfl
  | 2, _ => rfl
  | 3, _ => rfl
  | 4, _ => rfl
  | c + 5, h => omega
theorem ren_v (i : Nat) (t : TermD) : (renT i t).v = t.v := by
  unfold renT
  split
  · rename_i h; exact h.symm
  · rfl
theorem okb_35 : okb 35 = false := by decide +kernel
theorem okb_no35 {x : ByteArray} (h : ∀ b ∈ x.data.toList, okb b = true) : (35 : UInt8) ∉ x.data.toList := fun hm => by
  have := h _ hm
  rw [okb_35] at this; cases this
/-- two marked names are one only with one mark -/
theorem tag_inj {x y : ByteArray} {i k : Nat} (hi : i < 9223372036854775808) (hk : k < 9223372036854775808) (hx : ∀ b ∈ x.data.toList, okb b = true) (hy : ∀ b ∈ y.data.toList, okb b = true) (h : x ++ tagD i = y ++ tagD k) : x = y ∧ i = k := by
  have h2 := congrArg (fun b => b.data.toList) h
  simp only [marked_list] at h2
  obtain ⟨h3, _, h4⟩ := cut _ _ _ _ 35 35 hx hy okb_35 okb_35 h2
  exact ⟨ba_extB h3, digits_inj hi hk h4⟩
theorem tag_ne {x : ByteArray} (i : Nat) : x ++ tagD i ≠ emp := fun h => by
  have h2 := congrArg (fun b => b.data.toList) h
  simp only [marked_list] at h2
  have : x.data.toList ++ 35 :: Lib.decDigits i = [] := h2
  simp at this
theorem tag_not {x y : ByteArray} {i : Nat} (hy : ∀ b ∈ y.data.toList, okb b = true) : y ≠ x ++ tagD i := fun h => by
  refine okb_no35 hy ?_
  rw [h, marked_list]
  simp
theorem step_map {g : ByteArray → ByteArray} (hg : ∀ x y, g x = g y → x = y) (vs : List ByteArray) (s : ByteArray) : Lib.containsS (vs.map g) (g s) = Lib.containsS vs s := by
  cases h : Lib.containsS vs s with
  | true => exact hasS_true (List.mem_map.2 ⟨s, (Lib.containsS_iff vs s).1 h, rfl⟩)
  | false => exact hasS_false (fun hm => by
      obtain ⟨y, hy, e⟩ := List.mem_map.1 hm
      rw [← hg _ _ e, hasS_true hy] at h; cases h)
theorem names_map (i : Nat) : ∀ (ts : List TermD) (vs : List ByteArray), (ts.map (renT i)).foldl (stepN true) (vs.map (· ++ tagD i)) = (ts.foldl (stepN true) vs).map (· ++ tagD i)
  | [], _ => rfl
  | t :: ts, vs => by
    rw [List.map_cons, List.foldl_cons, List.foldl_cons, ← names_map i ts]
    congr 1
    unfold stepN
    rw [ren_v]
    cases hv : t.v with
    | false => simp
    | true =>
      have e : (renT i t).name = t.name ++ tagD i := by unfold renT; rw [if_pos hv]
      rw [e, step_map (g := (· ++ tagD i)) (fun x y h => app_cancel h) vs t.name]
      split <;> simp
theorem vars_ren (a : AtomD) (i : Nat) : varsA (renD a i) = (varsA a).map (· ++ tagD i) := by
  show (argsN (renD a i)).foldl (stepN true) [] = ((argsN a).foldl (stepN true) []).map _
  rw [show argsN (renD a i) = (argsN a).map (renT i) from map_argsN _ a]
  exact names_map i _ []
theorem vars_okb {a : AtomD} (h : checkD a = 0) {x : ByteArray} (hx : x ∈ varsA a) : ∀ b ∈ x.data.toList, okb b = true := by
  obtain ⟨t, ht, _, rfl⟩ := (names_mem true _ _).1 hx
  exact term_ok (List.all_eq_true.1 (check_parts h).2.2.1 t ht)
theorem args_okb {a : AtomD} (h : checkD a = 0) {t : TermD} (ht : t ∈ argsN a) : ∀ b ∈ t.name.data.toList, okb b = true := term_ok (List.all_eq_true.1 (check_parts h).2.2.1 t ht)
/-- a name up to its mark -/
def plainN (x : ByteArray) : ByteArray := ⟨(x.data.toList.takeWhile (fun b => b != 35)).toArray⟩
def plainT (t : TermD) : TermD := if t.v then ⟨true, plainN t.name⟩ else t
theorem plain_tag {x : ByteArray} (h : ∀ b ∈ x.data.toList, okb b = true) (i : Nat) : plainN (x ++ tagD i) = x := by
  refine ba_extB ?_
  show List.takeWhile _ (x ++ tagD i).data.toList = _
  rw [marked_list, List.takeWhile_append_of_pos (fun b hb => by
    simp only [bne_iff_ne]
    intro e
    subst e
    have := h _ hb
    rw [okb_35] at this; cases this)]
  simp
theorem plain_ren {t : TermD} (h : ∀ b ∈ t.name.data.toList, okb b = true) (i : Nat) : plainT (renT i t) = t := by
  unfold renT
  cases hv : t.v with
  | false => rw [if_neg (by decide)]; unfold plainT; rw [hv]; rfl
  | true =>
    rw [if_pos rfl]
    show (⟨true, plainN (t.name ++ tagD i)⟩ : TermD) = t
    rw [plain_tag h]
    exact TermD.ext' hv.symm rfl
theorem ren_names {a : AtomD} (h : checkD a = 0) (i : Nat) : ∀ t ∈ argsN (renD a i), t.name ≠ emp := fun t ht => by
  rw [show argsN (renD a i) = (argsN a).map (renT i) from map_argsN _ a] at ht
  obtain ⟨u, hu, rfl⟩ := List.mem_map.1 ht
  unfold renT
  split
  · exact tag_ne i
  · exact names_nee h hu
/-- with two marks an atom unifies with itself -/
theorem marks_unify {a : AtomD} (h : checkD a = 0) (i k : Nat) : (uniR (renD a i) (renD a k)).2 = true := by
  have hal : alikeD (renD a i) (renD a k) = true := alike_iff.2 ⟨rfl, rfl, rfl, (check_n h).1, (check_n h).2⟩
  have hs := uni_some plainT (fun t ht => by unfold plainT; rw [ht]; rfl) (m := []) (by decide) (reads_nil _) (ren_names h i) (ren_names h k) (by
    rw [show argsN (renD a i) = (argsN a).map (renT i) from map_argsN _ a, show argsN (renD a k) = (argsN a).map (renT k) from map_argsN _ a, List.map_map, List.map_map]
    refine List.map_congr_left fun t ht => ?_
    show plainT (renT i t) = plainT (renT k t)
    rw [plain_ren (args_okb h ht), plain_ren (args_okb h ht)])
  unfold uniR uniD
  rw [if_pos hal]
  exact hs

/-- what holds of a valid atom, marked or not -/
structure Form (a : AtomD) : Prop where
  lo : 0 ≤ a.n
  hi : a.n ≤ 4
  zeros : zerosB ((argsD a).drop (cntI a.n)) = true
  names : ∀ t ∈ argsN a, t.name ≠ emp
theorem form_of {a : AtomD} (h : checkD a = 0) : Form a := ⟨(check_n h).1, (check_n h).2, (check_parts h).2.2.2, fun t ht => names_nee h ht⟩
theorem form_ren {a : AtomD} (h : checkD a = 0) (i : Nat) : Form (renD a i) := ⟨(check_n h).1, (check_n h).2, by rw [show (argsD (renD a i)).drop (cntI (renD a i).n) = (argsD a).drop (cntI a.n) from map_drop _ a]; exact (check_parts h).2.2.2, ren_names h i⟩
theorem uniL_self : ∀ (m : List BindD) (ts : List TermD), uniL m ts ts = some m
  | m, [] => rfl
  | m, t :: ts => by
    unfold uniL
    rw [if_pos ((eqT_iff _ _).2 rfl)]
    exact uniL_self m ts
/-- an atom meets itself in itself -/
theorem meet_self {a : AtomD} (h : Form a) : meetR a a = (a, true) := by
  have hal : alikeD a a = true := alike_iff.2 ⟨rfl, rfl, rfl, h.lo, h.hi⟩
  have e : uniR a a = ([], true) := by
    unfold uniR uniD
    rw [if_pos hal, uniL_self]; rfl
  unfold meetR
  rw [e, if_pos rfl, apply_nil]
theorem uniR_cases (a b : AtomD) : (∃ n, uniD a b = some n ∧ uniR a b = (n, true)) ∨ (uniD a b = none ∧ uniR a b = ([], false)) := by
  unfold uniR
  cases e : uniD a b with
  | none => exact .inr ⟨rfl, rfl⟩
  | some n => exact .inl ⟨n, rfl, rfl⟩
theorem meet_some {a b : AtomD} {n : List BindD} (h : uniD a b = some n) : meetR a b = (applyA n a, true) := by
  unfold meetR uniR
  rw [h]; rfl
theorem meet_none {a b : AtomD} (h : uniD a b = none) : meetR a b = (zeroA, false) := by
  unfold meetR uniR
  rw [h]; rfl
theorem meet_symm {a b : AtomD} (ha : Form a) (hb : Form b) : meetR a b = meetR b a := by
  rcases uniR_cases a b with ⟨n, h, _⟩ | ⟨h, _⟩
  · rw [meet_some h, meet_some (by rw [uni_symm]; exact h), uni_apply ha.zeros hb.zeros h]
  · rw [meet_none h, meet_none (by rw [uni_symm]; exact h)]
theorem under_applyF {a : AtomD} (h : Form a) (l : List BindD) : underD (applyA l a) a = true := by
  refine under_iff.2 ⟨alike_iff.2 ⟨rfl, rfl, rfl, h.lo, h.hi⟩, ?_⟩
  rw [apply_argsN]
  exact cons_map _ (sub_cst l) _
/-- what two atoms meet in is under both -/
theorem meet_under {a b m : AtomD} (ha : Form a) (hb : Form b) (h : meetR a b = (m, true)) : underD m a = true ∧ underD m b = true := by
  rcases uniR_cases a b with ⟨n, e, _⟩ | ⟨e, _⟩
  · rw [meet_some e] at h
    obtain ⟨rfl, _⟩ := Prod.mk.inj h
    refine ⟨under_applyF ha n, ?_⟩
    rw [uni_apply ha.zeros hb.zeros e]
    exact under_applyF hb n
  · rw [meet_none e] at h
    cases (Prod.mk.inj h).2
/-- a reading of the variables of two atoms that have none in common -/
def bothF (ts us vs : List TermD) (t : TermD) : TermD := if t.v then (if ts.any (eqT t) then wantN ts vs t else wantN us vs t) else t
/-- what is under both is under what they meet in -/
theorem meet_least {a b c : AtomD} (ha : Form a) (hb : Form b) (hd : ∀ t ∈ argsN a, ∀ u ∈ argsN b, t.v = true → t ≠ u) (h1 : underD c a = true) (h2 : underD c b = true) : ∃ m, meetR a b = (m, true) ∧ underD c m = true := by
  obtain ⟨a1, a2⟩ := under_iff.1 h1
  obtain ⟨b1, b2⟩ := under_iff.1 h2
  have hal : alikeD a b = true := alike_trans (alike_symm a1) b1
  have la := alike_len (alike_symm a1)
  have lb := alike_len (alike_symm b1)
  have wa := cons_want la a2
  have wb := cons_want lb b2
  have hf : ∀ t : TermD, t.v = false → bothF (argsN a) (argsN b) (argsN c) t = t := fun t ht => by unfold bothF; rw [ht]; rfl
  have wc : ∀ (ts vs : List TermD) (t : TermD), t.v = false → wantN ts vs t = t := fun ts vs t ht => by unfold wantN; rw [ht]; rfl
  have fa : (argsN a).map (bothF (argsN a) (argsN b) (argsN c)) = argsN c := by
    refine Eq.trans (List.map_congr_left fun t ht => ?_) wa
    cases hv : t.v with
    | false => rw [hf t hv, wc _ _ t hv]
    | true =>
      unfold bothF
      rw [hv, if_pos rfl, if_pos (List.any_eq_true.2 ⟨t, ht, (eqT_iff _ _).2 rfl⟩)]
  have fb : (argsN b).map (bothF (argsN a) (argsN b) (argsN c)) = argsN c := by
    refine Eq.trans (List.map_congr_left fun t ht => ?_) wb
    cases hv : t.v with
    | false => rw [hf t hv, wc _ _ t hv]
    | true =>
      unfold bothF
      rw [hv, if_pos rfl, if_neg]
      intro hany
      obtain ⟨x, hx, e⟩ := List.any_eq_true.1 hany
      have e := (eqT_iff _ _).1 e
      exact hd x hx t ht (by rw [← e]; exact hv) e.symm
  have hs := uni_some (bothF (argsN a) (argsN b) (argsN c)) hf (m := []) (by decide) (reads_nil _) ha.names hb.names (fa.trans fb.symm)
  cases e : uniL [] (argsN a) (argsN b) with
  | none => rw [e] at hs; cases hs
  | some n =>
    have hu : uniD a b = some n := by unfold uniD; rw [if_pos hal, e]
    have hr := uni_reads (bothF (argsN a) (argsN b) (argsN c)) (by decide) (reads_nil _) (fa.trans fb.symm) e
    refine ⟨_, meet_some hu, under_iff.2 ⟨a1, ?_⟩⟩
    have hm : (argsN (applyA n a)).map (bothF (argsN a) (argsN b) (argsN c)) = argsN c := by
      rw [apply_argsN, List.map_map]
      exact (List.map_congr_left fun t _ => hr t).trans fa
    have := cons_map (bothF (argsN a) (argsN b) (argsN c)) hf (argsN (applyA n a))
    rw [hm] at this
    exact this
theorem ren_apart {a b : AtomD} (ha : checkD a = 0) (i : Nat) : ∀ t ∈ argsN a, ∀ u ∈ argsN (renD b i), t.v = true → t ≠ u := fun t ht u hu hv e => by
  rw [show argsN (renD b i) = (argsN b).map (renT i) from map_argsN _ b] at hu
  obtain ⟨x, hx, rfl⟩ := List.mem_map.1 hu
  have xv : x.v = true := by rw [← ren_v i x, ← e]; exact hv
  have e2 : t.name = x.name ++ tagD i := by rw [e]; unfold renT; rw [if_pos xv]
  exact tag_not (args_okb ha ht) e2
end Go.Proofs.YtiokjjiakcbmhaaDoor
