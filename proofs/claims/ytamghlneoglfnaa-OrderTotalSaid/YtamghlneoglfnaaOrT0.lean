/-
  The order of valid atoms of one shape: by the names of their first different term. No condition.
-/
import Derived.Test.YtamghlneoglfnaaOrS
namespace Go.Proofs.Ytamghlneoglfnaa
open Go.RowKit

theorem bless_pre : ∀ (p x y : List UInt8), Op.bytesLess (p ++ x) (p ++ y) = Op.bytesLess x y
  | [], _, _ => rfl
  | c :: p, x, y => by
    have irr : ¬ c < c := fun h => by simp only [UInt8.lt_iff_toNat_lt] at h; omega
    rw [List.cons_append, List.cons_append, Op.bytesLess, bless_pre p x y]
    simp [irr]
theorem bless_apart : ∀ (s t r q : List UInt8), s.take (min s.length t.length) ≠ t.take (min s.length t.length) → Op.bytesLess (s ++ r) (t ++ q) = Op.bytesLess s t
  | [], t, r, q, h => by simp at h
  | c :: s, [], r, q, h => by simp at h
  | c :: s, d :: t, r, q, h => by
    rw [List.cons_append, List.cons_append, Op.bytesLess, Op.bytesLess]
    by_cases e : c = d
    · subst e
      have h2 : s.take (min s.length t.length) ≠ t.take (min s.length t.length) := fun e2 => h (by
        have e3 : min (c :: s).length (c :: t).length = min s.length t.length + 1 := by simp only [List.length_cons]; omega
        rw [e3, List.take_succ_cons, List.take_succ_cons, e2])
      rw [bless_apart s t r q h2]
    · have e2 : (c == d) = false := by rw [beq_eq_false_iff_ne]; exact e
      rw [e2, Bool.false_and, Bool.false_and]
def midL : List TermD → List UInt8
  | [] => [44, 32]
  | y :: r => 44 :: 32 :: (y.name.data.toList ++ midL r)
def headL : List TermD → List UInt8
  | [] => [40]
  | x :: r => 40 :: (x.name.data.toList ++ midL r)
theorem tail_mid : ∀ (p : List TermD) (t : TermD) (s : List TermD), tailL (p ++ t :: s) = midL p ++ (t.name.data.toList ++ tailL s)
  | [], t, s => by simp [tailL, midL]
  | y :: p, t, s => by rw [List.cons_append, tailL, midL, tail_mid p t s]; simp
theorem arg_mid (p : List TermD) (t : TermD) (s : List TermD) : argL (p ++ t :: s) = headL p ++ (t.name.data.toList ++ tailL s) := by
  cases p with
  | nil => rw [List.nil_append, argL_cons]; rfl
  | cons y p => rw [List.cons_append, argL_cons, tail_mid]; simp [headL]
theorem mid_congr : ∀ (p q : List TermD), p.map (·.name) = q.map (·.name) → midL p = midL q
  | [], [], _ => rfl
  | [], _ :: _, h => by simp at h
  | _ :: _, [], h => by simp at h
  | x :: p, y :: q, h => by
    simp only [List.map_cons, List.cons.injEq] at h
    rw [midL, midL, h.1, mid_congr p q h.2]
theorem head_congr (p q : List TermD) (h : p.map (·.name) = q.map (·.name)) : headL p = headL q := by
  cases p with
  | nil => cases q with
    | nil => rfl
    | cons _ _ => simp at h
  | cons x p => cases q with
    | nil => simp at h
    | cons y q =>
      simp only [List.map_cons, List.cons.injEq] at h
      rw [headL, headL, h.1, mid_congr p q h.2]
def nameAt (a : AtomD) (i : Nat) : ByteArray := ((argsD a).getD i zeroT).name
theorem args_len (a : AtomD) : (argsD a).length = 4 := rfl
theorem nameAt_get (a : AtomD) {i : Nat} (h : i < (argsD a).length) : nameAt a i = (argsD a)[i].name := by
  unfold nameAt
  rw [List.getD_eq_getElem?_getD, List.getElem?_eq_getElem h]; rfl
/-- names ahead of i are the same -/
def SameTo (a b : AtomD) (i : Nat) : Prop := ∀ j, j < i → nameAt a j = nameAt b j
theorem same_zero (a b : AtomD) : SameTo a b 0 := fun j h => absurd h (Nat.not_lt_zero _)
theorem same_succ {a b : AtomD} {i : Nat} (h : SameTo a b i) (e : nameAt a i = nameAt b i) : SameTo a b (i + 1) := fun j hj => by
  rcases Nat.lt_or_ge j i with h1 | h1
  · exact h j h1
  · rw [show j = i by omega]; exact e
theorem same_take {a b : AtomD} {i : Nat} (h : SameTo a b i) (h4 : i ≤ 4) : ((argsD a).take i).map (·.name) = ((argsD b).take i).map (·.name) := by
  apply List.ext_getElem
  · simp [args_len]
  · intro j h1 h2
    have hj : j < i := by simp [args_len] at h1; omega
    have h5 : j < (argsD a).length := by rw [args_len]; omega
    have h6 : j < (argsD b).length := by rw [args_len]; omega
    rw [List.getElem_map, List.getElem_map, List.getElem_take, List.getElem_take, ← nameAt_get a h5, ← nameAt_get b h6]
    exact h j hj
theorem same_all {a b : AtomD} (ha : checkD a = 0) (hb : checkD b = 0) (e1 : a.says = b.says) (e2 : a.pred = b.pred) (e3 : a.n = b.n) (h : SameTo a b (cntI a.n)) : a = b := by
  have va := valid_of ha
  have vb := valid_of hb
  have hc : cntI a.n ≤ 4 := cntI_le _
  refine AtomD.ext' e1 e2 e3 ?_
  apply List.ext_getElem
  · rfl
  · intro j h1 h2
    rw [args_len] at h1
    rcases Nat.lt_or_ge j (cntI a.n) with hj | hj
    · have t1 : termB (argsD a)[j] = true := va.terms _ (List.mem_take_iff_getElem.2 ⟨j, by rw [args_len]; omega, rfl⟩)
      have t2 : termB (argsD b)[j] = true := vb.terms _ (List.mem_take_iff_getElem.2 ⟨j, by rw [args_len, ← e3]; omega, rfl⟩)
      refine term_same t1 t2 ?_
      rw [← nameAt_get, ← nameAt_get]
      exact h j hj
    · have z1 : (argsD a)[j] = zeroT := va.zeros _ (List.mem_drop_iff_getElem.2 ⟨j - cntI a.n, by rw [args_len]; omega, by congr 1; omega⟩)
      have z2 : (argsD b)[j] = zeroT := vb.zeros _ (List.mem_drop_iff_getElem.2 ⟨j - cntI b.n, by rw [args_len, ← e3]; omega, by congr 1; rw [← e3]; omega⟩)
      exact z1.trans z2.symm
theorem ltA_at {a b : AtomD} {i : Nat} (e1 : a.says = b.says) (e2 : a.pred = b.pred) (e3 : a.n = b.n) (hi : i < cntI a.n) (h : SameTo a b i) (hx : ((nameAt a i).extract 0 (min (nameAt a i).size (nameAt b i).size)).toList ≠ ((nameAt b i).extract 0 (min (nameAt a i).size (nameAt b i).size)).toList) : ltA a b = ltS (nameAt a i) (nameAt b i) := by
  have hc : cntI a.n ≤ 4 := cntI_le _
  have ex : ∀ c : AtomD, cntI c.n = cntI a.n → (argsD c).take (cntI c.n) = (argsD c).take i ++ (argsD c)[i]'(by rw [args_len]; omega) :: ((argsD c).take (cntI c.n)).drop (i + 1) := fun c hcn => by
    have hl : i < ((argsD c).take (cntI c.n)).length := by rw [List.length_take, args_len, hcn]; omega
    have h1 := (List.take_append_drop i ((argsD c).take (cntI c.n))).symm
    rw [List.drop_eq_getElem_cons hl, List.getElem_take, List.take_take, Nat.min_eq_left (by omega)] at h1
    exact h1
  have tx : ∀ c : AtomD, cntI c.n = cntI a.n → (textD c).toList = (c.says.data.toList ++ ([32, 115, 97, 121, 115, 32] ++ (c.pred.data.toList ++ headL ((argsD c).take i)))) ++ ((nameAt c i).data.toList ++ tailL (((argsD c).take (cntI c.n)).drop (i + 1))) := fun c hcn => by
    have h0 : (textD c).toList = c.says.data.toList ++ ([32, 115, 97, 121, 115, 32] ++ (c.pred.data.toList ++ argL ((argsD c).take (cntI c.n)))) := by rw [ByteArray.toList_eq]; rfl
    rw [h0]
    conv => lhs; rw [ex c hcn, arg_mid]
    rw [nameAt_get c (by rw [args_len]; omega)]
    simp only [List.append_assoc]
  unfold ltA ltS
  rw [tx a rfl, tx b (by rw [e3]), ← e1, ← e2, head_congr _ _ (same_take h (by omega)).symm, bless_pre, ByteArray.toList_eq, ByteArray.toList_eq]
  refine bless_apart _ _ _ _ fun e => hx ?_
  have hs : ∀ x : ByteArray, x.size = x.data.toList.length := fun x => rfl
  have he : ∀ (x : ByteArray) (m : Nat), (x.extract 0 m).toList = x.data.toList.take m := fun x m => by
    rw [ByteArray.toList_eq, ByteArray.data_extract, Array.toList_extract]; simp [List.extract]
  rw [he, he, hs, hs]
  exact e
theorem AtomAt.nameCell {w : World} {b : Nat} {a : AtomD} (h : AtomAt w b a) {i : Nat} (hi : i < 4) : w.cell? ⟨b, 3 + i * 2 + 1, none⟩ = some (.string (nameAt a i)) := by
  obtain ⟨c0, c1, c2, c3, c4, c5, c6, c7, c8, c9, c10⟩ := h.cells
  obtain rfl | rfl | rfl | rfl : i = 0 ∨ i = 1 ∨ i = 2 ∨ i = 3 := by omega
  · exact c4
  · exact c6
  · exact c8
  · exact c10
end Go.Proofs.Ytamghlneoglfnaa
