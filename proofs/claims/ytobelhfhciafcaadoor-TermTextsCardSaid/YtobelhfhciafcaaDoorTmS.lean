/-
  The text of an atom with one term more; names in their order: plain mathematics. No condition.
-/
import Derived.Test.YtobelhfhciafcaaDoorTmQ
namespace Go.Proofs.YtobelhfhciafcaaDoor
open Go.RowKit

theorem step_pre (v : Bool) (out : List ByteArray) (t : TermD) : ∃ r, stepN v out t = out ++ r := by
  unfold stepN; split
  · exact ⟨_, rfl⟩
  · exact ⟨[], by simp⟩
theorem names_pre (v : Bool) (l : List TermD) (k : Nat) : ∃ r, namesD v l = namesD v (l.take k) ++ r := by
  have h : ∀ (l : List TermD) (acc : List ByteArray), ∃ r, l.foldl (stepN v) acc = acc ++ r := by
    intro l
    induction l with
    | nil => intro acc; exact ⟨[], by simp⟩
    | cons t l ih =>
      intro acc
      obtain ⟨r1, h1⟩ := step_pre v acc t
      obtain ⟨r2, h2⟩ := ih (acc ++ r1)
      exact ⟨r1 ++ r2, by rw [List.foldl_cons, h1, h2, List.append_assoc]⟩
  obtain ⟨r, hr⟩ := h (l.drop k) (namesD v (l.take k))
  refine ⟨r, ?_⟩
  rw [← hr]
  unfold namesD
  rw [← List.foldl_append, List.take_append_drop]
theorem next_name (L : List TermD) (k : Nat) (t : TermD) (ht : L[k]? = some t) (hn : (namesD true (L.take k)).length < (namesD true L).length) :
    (namesD true (L.take (k + 1))).length = (namesD true (L.take k)).length + if eqT t ⟨true, (namesD true L)[(namesD true (L.take k)).length]⟩ = true then 1 else 0 := by
  have hs := names_succ true ht
  obtain ⟨r, hr⟩ := names_pre true L k
  obtain ⟨r', hr'⟩ := names_pre true L (k + 1)
  have hx : (namesD true L)[(namesD true (L.take k)).length]? = r[0]? := by
    conv => lhs; rw [hr]
    rw [List.getElem?_append_right (Nat.le_refl _), Nat.sub_self]
  have hx1 : r[0]? = some (namesD true L)[(namesD true (L.take k)).length] := by rw [← hx, List.getElem?_eq_getElem hn]
  generalize (namesD true L)[(namesD true (L.take k)).length] = x at hx1 ⊢
  by_cases hc : (t.v == true && !Lib.containsS (namesD true (L.take k)) t.name) = true
  · have e1 : namesD true (L.take (k + 1)) = namesD true (L.take k) ++ [t.name] := by rw [hs]; unfold stepN; rw [if_pos hc]
    have e2 : r = t.name :: r' := by
      have : namesD true (L.take k) ++ r = namesD true (L.take k) ++ (t.name :: r') := by rw [← hr, hr', e1]; simp
      exact List.append_cancel_left this
    have e3 : x = t.name := by rw [e2] at hx1; simpa using hx1.symm
    simp only [Bool.and_eq_true, beq_iff_eq] at hc
    rw [if_pos ((eqT_iff _ _).2 (TermD.ext' hc.1 e3.symm)), e1]
    simp
  · have e1 : namesD true (L.take (k + 1)) = namesD true (L.take k) := by rw [hs]; unfold stepN; rw [if_neg hc]
    rw [e1, if_neg]
    · rfl
    · intro he
      have he' := (eqT_iff _ _).1 he
      subst he'
      have hmem : x ∈ namesD true (L.take k) := by
        simp only [beq_self_eq_true, Bool.true_and, Bool.not_eq_true', Bool.not_eq_false] at hc
        exact (Lib.containsS_iff _ _).1 hc
      have hp := names_once true L
      rw [hr, List.pairwise_append] at hp
      have hxr : x ∈ r := List.mem_of_getElem? hx1
      exact hp.2.2 x hmem x hxr rfl
theorem last_name (L : List TermD) (k : Nat) (hn : ¬ (namesD true (L.take k)).length < (namesD true L).length) : (namesD true (L.take (k + 1))).length = (namesD true (L.take k)).length := by
  obtain ⟨r, hr⟩ := names_pre true L k
  obtain ⟨r', hr'⟩ := names_pre true L (k + 1)
  have h1 := congrArg List.length hr
  have h2 := congrArg List.length hr'
  rw [List.length_append] at h1 h2
  have h3 : (namesD true (L.take k)).length ≤ (namesD true (L.take (k + 1))).length := by
    cases ht : L[k]? with
    | none =>
      have : L.take (k + 1) = L.take k := by rw [List.take_add_one, ht]; simp
      rw [this]; exact Nat.le_refl _
    | some t =>
      rw [names_succ true ht]
      obtain ⟨r2, h⟩ := step_pre true (namesD true (L.take k)) t
      rw [h, List.length_append]; omega
  omega
/-- who says what -/
def frontD (a : AtomD) : ByteArray := a.says ++ ⟨#[32, 115, 97, 121, 115, 32]⟩ ++ a.pred
theorem front_list (a : AtomD) : (frontD a).data.toList = a.says.data.toList ++ ([32, 115, 97, 121, 115, 32] ++ a.pred.data.toList) := by
  unfold frontD
  rw [ba_app, ba_app, List.append_assoc]
theorem text_list (a : AtomD) : (textD a).data.toList = (frontD a).data.toList ++ argL ((argsD a).take (cntI a.n)) := by
  rw [front_list]
  show textL a = _
  unfold textL saidL
  simp
theorem front_le {a : AtomD} (h : AtomSm a) : (frontD a).size ≤ 2010 := by
  have h1 := h.says
  have h2 := h.pred
  unfold frontD
  rw [ByteArray.size_append, ByteArray.size_append]
  have : (⟨#[32, 115, 97, 121, 115, 32]⟩ : ByteArray).size = 6 := rfl
  omega
theorem text_size (a : AtomD) : (textD a).size = (frontD a).size + (argL ((argsD a).take (cntI a.n))).length := by
  rw [← ba_lenL, ← ba_lenL, text_list, List.length_append]
theorem text_front (a : AtomD) : (textD a).extract 0 (frontD a).size = frontD a := by
  apply ba_extL
  rw [ByteArray.data_extract, Array.toList_extract, text_list, ← ba_lenL]
  simp
theorem text_none (a : AtomD) : ((textD a).toList == (frontD a).toList) = ((cntI a.n : Int) == 0) := by
  rw [Bool.eq_iff_iff, beq_iff_eq, beq_iff_eq, ByteArray.toList_eq, ByteArray.toList_eq, text_list]
  have hl := first_len a
  constructor
  · intro h
    have h0 : argL ((argsD a).take (cntI a.n)) = [] := by
      have := congrArg List.length h
      rw [List.length_append] at this
      exact List.eq_nil_of_length_eq_zero (by omega)
    cases hL : (argsD a).take (cntI a.n) with
    | nil => rw [hL] at hl; simp at hl; omega
    | cons t r => rw [hL, argL_cons] at h0; cases h0
  · intro h
    have h0 : (argsD a).take (cntI a.n) = [] := List.eq_nil_of_length_eq_zero (by rw [hl]; omega)
    rw [h0, argL_nil, List.append_nil]
/-- one term more -/
def moreD (a : AtomD) (k : Nat) (t : TermD) : AtomD := setN (setArg a k t) ((k + 1 : Nat) : Int)
theorem more_first (a : AtomD) (k : Nat) (t : TermD) (hk : k < 4) : (argsD (moreD a k t)).take (cntI (moreD a k t).n) = (argsD a).take k ++ [t] := by
  have hn : cntI (moreD a k t).n = k + 1 := by show cntI ((k + 1 : Nat) : Int) = k + 1; unfold cntI; omega
  rw [hn]
  obtain rfl | rfl | rfl | rfl : k = 0 ∨ k = 1 ∨ k = 2 ∨ k = 3 := by omega
  all_goals rfl
theorem more_front (a : AtomD) (k : Nat) (t : TermD) : frontD (moreD a k t) = frontD a := by
  unfold moreD setN setArg frontD
  split <;> rfl
theorem more_sm {a : AtomD} (h : AtomSm a) (k : Nat) (hk : k < 4) {t : TermD} (ht : t.name.size ≤ 1000) : AtomSm (moreD a k t) := by
  obtain ⟨h1, h2, h3, h4, h5, h6⟩ := h
  obtain rfl | rfl | rfl | rfl : k = 0 ∨ k = 1 ∨ k = 2 ∨ k = 3 := by omega
  · exact ⟨h1, h2, ht, h4, h5, h6⟩
  · exact ⟨h1, h2, h3, ht, h5, h6⟩
  · exact ⟨h1, h2, h3, h4, ht, h6⟩
  · exact ⟨h1, h2, h3, h4, h5, ht⟩
theorem more_zero (a : AtomD) (t : TermD) : frontD a ++ ⟨#[40]⟩ ++ t.name ++ ⟨#[41]⟩ = textD (moreD a 0 t) := by
  apply ba_extL
  rw [text_list, more_first a 0 t (by omega), more_front, ba_app, ba_app, ba_app]
  show _ = _ ++ argL [t]
  rw [argL_cons]
  simp [tailL]
theorem arg_snoc (l : List TermD) (t : TermD) (h : l ≠ []) : ∃ P, argL l = P ++ [41] ∧ argL (l ++ [t]) = P ++ (44 :: 32 :: (t.name.data.toList ++ [41])) := by
  have key : ∀ r : List TermD, ∃ P, tailL r = P ++ [41] ∧ tailL (r ++ [t]) = P ++ (44 :: 32 :: (t.name.data.toList ++ [41])) := by
    intro r
    induction r with
    | nil => exact ⟨[], rfl, rfl⟩
    | cons x r ih =>
      obtain ⟨P, h1, h2⟩ := ih
      exact ⟨44 :: 32 :: (x.name.data.toList ++ P), by simp only [tailL, h1]; simp, by simp only [List.cons_append, tailL, h2]; simp⟩
  cases l with
  | nil => exact absurd rfl h
  | cons x r =>
    obtain ⟨P, h1, h2⟩ := key r
    exact ⟨40 :: (x.name.data.toList ++ P), by rw [argL_cons, h1]; simp, by rw [List.cons_append, argL_cons, h2]; simp⟩
theorem more_some (a : AtomD) (t : TermD) (k : Nat) (hk : cntI a.n = k) (h0 : 0 < k) (h4 : k < 4) : 0 < (textD a).size ∧ (textD a).extract 0 ((textD a).size - 1) ++ ⟨#[44, 32]⟩ ++ t.name ++ ⟨#[41]⟩ = textD (moreD a k t) := by
  have hl := first_len a
  rw [hk] at hl
  have hne : (argsD a).take k ≠ [] := by intro h; rw [h] at hl; simp at hl; omega
  obtain ⟨P, h1, h2⟩ := arg_snoc _ t hne
  have hT : (textD a).data.toList = (frontD a).data.toList ++ (P ++ [41]) := by rw [text_list, hk, h1]
  have hsz : (textD a).size = ((frontD a).data.toList ++ P).length + 1 := by rw [← ba_lenL, hT]; simp; omega
  refine ⟨by omega, ba_extL ?_⟩
  rw [text_list, more_first a k t h4, more_front, h2, ba_app, ba_app, ba_app, ByteArray.data_extract, Array.toList_extract, hsz, hT]
  simp [List.take_append]
  exact List.take_of_length_le (by rw [ba_lenL]; omega)
end Go.Proofs.YtobelhfhciafcaaDoor
