/-
  Valid atoms and their texts: one text, one atom; the names of terms occur once. No condition.
-/
import Derived.Test.YtamghlneoglfnaaTgD
import Derived.Test.YtamghlneoglfnaaUgB
namespace Go.Proofs.Ytamghlneoglfnaa
open Go.RowKit
theorem vari_cons {s : ByteArray} (h : variB s = true) : consB s = false := by
  obtain ⟨⟨l⟩⟩ := s
  cases l with
  | nil => cases h
  | cons c r =>
    have h' : nameB uppB true (c :: r) = true := h
    show (nameB smaB false (c :: r) && !resB _) = false
    simp only [nameB, Bool.and_eq_true] at h'
    have hu : uppB c = true := h'.2.1
    have hn : smaB c = false := by
      simp only [uppB, Bool.and_eq_true, decide_eq_true_eq] at hu
      simp only [smaB, lowB, digB, Bool.or_eq_false_iff, Bool.and_eq_false_iff, decide_eq_false_iff_not]
      omega
    simp [nameB, hn]
theorem term_same {a b : TermD} (ha : termB a = true) (hb : termB b = true) (h : a.name = b.name) : a = b := by
  refine TermD.ext' ?_ h
  unfold termB at ha hb
  rw [h] at ha
  cases hav : a.v <;> cases hbv : b.v <;> rw [hav] at ha <;> rw [hbv] at hb <;> simp only [Bool.false_eq_true, if_false, if_true] at ha hb
  · have := vari_cons hb; rw [ha] at this; cases this
  · have := vari_cons ha; rw [hb] at this; cases this
/-- what comes behind a name -/
def tailL : List TermD → List UInt8
  | [] => [41]
  | t :: r => 44 :: 32 :: (t.name.data.toList ++ tailL r)
theorem argL_cons (t : TermD) (r : List TermD) : argL (t :: r) = 40 :: (t.name.data.toList ++ tailL r) := by
  unfold argL
  rw [if_neg (by simp)]
  congr 1
  have h : ∀ r : List TermD, Lib.joinTail [44, 32] (nameL r) ++ [41] = tailL r := by
    intro r
    induction r with
    | nil => rfl
    | cons y r ih =>
      show (([44, 32] ++ y.name.data.toList) ++ Lib.joinTail [44, 32] (nameL r)) ++ [41] = _
      rw [List.append_assoc, ih]
      rfl
  show Lib.join (t.name.data.toList :: nameL r) [44, 32] ++ [41] = _
  rw [Lib.join_cons, List.append_assoc, h]
theorem argL_nil : argL [] = [] := rfl
theorem tail_head (r : List TermD) : ∃ c u, tailL r = c :: u ∧ okb c = false := by
  cases r with
  | nil => exact ⟨41, [], rfl, okb_41⟩
  | cons t r => exact ⟨44, _, rfl, okb_44⟩
theorem tail_inj : ∀ (r r' : List TermD), (∀ t ∈ r, termB t = true) → (∀ t ∈ r', termB t = true) → tailL r = tailL r' → r = r'
  | [], [], _, _, _ => rfl
  | [], t :: r', _, _, h => by simp [tailL] at h
  | t :: r, [], _, _, h => by simp [tailL] at h
  | t :: r, t' :: r', h1, h2, h => by
    simp only [tailL, List.cons.injEq, true_and] at h
    obtain ⟨c, u, e1, k1⟩ := tail_head r
    obtain ⟨c', u', e2, k2⟩ := tail_head r'
    have h' := h
    rw [e1, e2] at h'
    obtain ⟨a1, a2, a3⟩ := cut _ _ _ _ _ _ (term_ok (h1 t (by simp))) (term_ok (h2 t' (by simp))) k1 k2 h'
    have ht : t = t' := term_same (h1 t (by simp)) (h2 t' (by simp)) (ba_extL a1)
    have hr := tail_inj r r' (fun x hx => h1 x (by simp [hx])) (fun x hx => h2 x (by simp [hx])) (by rw [e1, e2, a2, a3])
    rw [ht, hr]
theorem arg_inj {l l' : List TermD} (h1 : ∀ t ∈ l, termB t = true) (h2 : ∀ t ∈ l', termB t = true) (h : argL l = argL l') : l = l' := by
  cases l with
  | nil =>
    cases l' with
    | nil => rfl
    | cons t r => rw [argL_nil, argL_cons] at h; cases h
  | cons t r =>
    cases l' with
    | nil => rw [argL_nil, argL_cons] at h; cases h
    | cons t' r' =>
      rw [argL_cons, argL_cons] at h
      simp only [List.cons.injEq, true_and] at h
      exact tail_inj (t :: r) (t' :: r') h1 h2 (by simp only [tailL, h])
theorem arg_head (l : List TermD) : argL l = [] ∨ ∃ u, argL l = 40 :: u := by
  cases l with
  | nil => exact .inl rfl
  | cons t r => exact .inr ⟨_, argL_cons t r⟩
theorem said_cut : ∀ (x x' : List UInt8) (u u' : List UInt8), (∀ b ∈ x, okb b = true) → (∀ b ∈ x', okb b = true) → (u = [] ∨ ∃ v, u = 40 :: v) → (u' = [] ∨ ∃ v, u' = 40 :: v) → x ++ u = x' ++ u' → x = x' ∧ u = u' := by
  intro x x' u u' h1 h2 h3 h4 h
  have h5 : x ++ u ++ [40] = x' ++ u' ++ [40] := by rw [h]
  have key : ∀ u : List UInt8, (u = [] ∨ ∃ v, u = 40 :: v) → ∃ v, u ++ [40] = 40 :: v := by
    rintro u (rfl | ⟨v, rfl⟩)
    · exact ⟨[], rfl⟩
    · exact ⟨v ++ [40], rfl⟩
  obtain ⟨v, hv⟩ := key u h3
  obtain ⟨v', hv'⟩ := key u' h4
  rw [List.append_assoc, List.append_assoc, hv, hv'] at h5
  obtain ⟨e1, _, _⟩ := cut _ _ _ _ _ _ h1 h2 okb_40 okb_40 h5
  subst e1
  exact ⟨rfl, List.append_cancel_left h⟩

/-- what a valid atom is -/
structure Valid (a : AtomD) : Prop where
  says : prinB a.says = true
  pred : prinB a.pred = true
  lo : 0 ≤ a.n
  hi : a.n ≤ 4
  terms : ∀ t ∈ (argsD a).take (cntI a.n), termB t = true
  zeros : ∀ t ∈ (argsD a).drop (cntI a.n), t = zeroT
theorem valid_of {a : AtomD} (h : checkD a = 0) : Valid a := by
  unfold checkD at h
  split at h
  · rename_i h1
    split at h
    · cases h
    · rename_i h2
      split at h
      · rename_i h3
        split at h
        · rename_i h4
          rw [Bool.and_eq_true] at h1
          refine ⟨h1.1, h1.2, by omega, by omega, List.all_eq_true.1 h3, fun t ht => ?_⟩
          unfold zerosB at h4
          exact (eqT_iff _ _).1 (List.all_eq_true.1 h4 t ht)
        · cases h
      · cases h
  · cases h
theorem Valid.cnt {a : AtomD} (h : Valid a) : (cntI a.n : Int) = a.n := by have := h.lo; have := h.hi; unfold cntI; omega
theorem text_inj {a b : AtomD} (ha : checkD a = 0) (hb : checkD b = 0) (h : textD a = textD b) : a = b := by
  have va := valid_of ha
  have vb := valid_of hb
  have hL : textL a = textL b := by
    have := congrArg (fun x : ByteArray => x.data.toList) h
    simpa [textD] using this
  unfold textL saidL at hL
  obtain ⟨e1, _, e2⟩ := cut a.says.data.toList b.says.data.toList _ _ 32 32 (prin_ok va.says) (prin_ok vb.says) okb_32 okb_32 hL
  have e2' : [115, 97, 121, 115, 32] ++ (a.pred.data.toList ++ argL ((argsD a).take (cntI a.n))) = [115, 97, 121, 115, 32] ++ (b.pred.data.toList ++ argL ((argsD b).take (cntI b.n))) := e2
  have e2 := List.append_cancel_left e2'
  obtain ⟨e3, e4⟩ := said_cut _ _ _ _ (prin_ok va.pred) (prin_ok vb.pred) (arg_head _) (arg_head _) e2
  have e5 := arg_inj va.terms vb.terms e4
  have hc : cntI a.n = cntI b.n := by
    have := congrArg List.length e5
    rwa [first_len, first_len] at this
  have hn : a.n = b.n := by have := va.cnt; have := vb.cnt; omega
  refine AtomD.ext' (ba_extL e1) (ba_extL e3) hn ?_
  have hd : (argsD a).drop (cntI a.n) = (argsD b).drop (cntI b.n) := by
    apply List.ext_getElem
    · simp [argsD, hc]
    · intro i h1 h2
      rw [va.zeros _ (List.getElem_mem h1), vb.zeros _ (List.getElem_mem h2)]
  rw [← List.take_append_drop (cntI a.n) (argsD a), ← List.take_append_drop (cntI b.n) (argsD b), e5, hd]
theorem text_eq {a b : AtomD} (ha : checkD a = 0) (hb : checkD b = 0) : ((textD a).toList == (textD b).toList) = eqA a b := by
  rw [Bool.eq_iff_iff, eqA_iff, beq_iff_eq]
  constructor
  · intro h
    rw [ByteArray.toList_eq, ByteArray.toList_eq] at h
    exact text_inj ha hb (ba_extL h)
  · rintro rfl; rfl
theorem names_once (v : Bool) (l : List TermD) : (namesD v l).Pairwise (fun x y => x ≠ y) := by
  unfold namesD
  suffices h : ∀ (l : List TermD) (x : List ByteArray), x.Pairwise (fun x y => x ≠ y) → (l.foldl (stepN v) x).Pairwise (fun x y => x ≠ y) from h l [] List.Pairwise.nil
  intro l
  induction l with
  | nil => intro x hx; exact hx
  | cons t l ih =>
    intro x hx
    refine ih _ ?_
    unfold stepN
    split
    · rename_i h
      simp only [Bool.and_eq_true, Bool.not_eq_true'] at h
      rw [List.pairwise_append]
      refine ⟨hx, by simp, fun a ha b hb => ?_⟩
      simp only [List.mem_singleton] at hb
      subst hb
      rintro rfl
      have := (Lib.containsS_iff _ _).2 ha
      rw [h.2] at this
      cases this
    · exact hx
end Go.Proofs.Ytamghlneoglfnaa
