/-
  The reference's walks: what a variable is bound to, a term and an atom under bindings. Conditions: as each says. The reference's check of bindings. Conditions: as it says. The reference's list with one more binding. Conditions: as it says. The reference's binding of one more variable. Conditions: as it says.
-/
import Derived.Test.YtkcnbdlhggoojaaDoorSgD
namespace Go.Proofs.YtkcnbdlhggoojaaDoor
open Go.RowKit

theorem getB_take_none {l : List BindD} {k : Nat} {v : ByteArray} (hk : k < l.length) (h : getB (l.take k) v = none) (h2 : l[k].v ≠ v) : getB (l.take (k + 1)) v = none := by
  rw [List.take_add_one, List.getElem?_eq_getElem hk, getB_append, h]
  simp [getB, h2]
theorem getB_take_some {l : List BindD} {k : Nat} {v : ByteArray} (hk : k < l.length) (h : getB (l.take k) v = none) (h2 : l[k].v = v) : getB l v = some l[k].t := by
  conv => lhs; rw [← List.take_append_drop k l]
  rw [getB_append, h, List.drop_eq_getElem_cons hk]
  simp [getB, h2]
end Go.Proofs.YtkcnbdlhggoojaaDoor
namespace Go.Proofs.YtkcnbdlhggoojaaDoor
open Go.RowKit

def AdjB (l : List BindD) (k : Nat) : Prop := ∀ j (h : j + 1 < l.length), j + 1 < k → ltB l[j] l[j + 1] = true
theorem adj_zero (l : List BindD) : AdjB l 0 := fun j _ h => by omega
theorem adj_one (l : List BindD) : AdjB l 1 := fun j _ h => by omega
theorem adj_succ {l : List BindD} {m : Nat} (hm : m + 1 < l.length) (h : AdjB l (m + 1)) (h2 : ltB l[m] l[m + 1] = true) : AdjB l (m + 1 + 1) := fun j hj hk => by
  by_cases e : j = m
  · subst e; exact h2
  · exact h j hj (by omega)
theorem adj_asc {l : List BindD} (h : AdjB l l.length) : Asc l := asc_of_up l (fun j hj => h j hj hj)
theorem adj_not {l : List BindD} {m : Nat} (hm : m + 1 < l.length) (h2 : ltB l[m] l[m + 1] = false) : errB l = 15 := err_asc (fun h => by
  have := asc_adj h m hm
  rw [h2] at this; cases this)

end Go.Proofs.YtkcnbdlhggoojaaDoor
namespace Go.Proofs.YtkcnbdlhggoojaaDoor
open Go.RowKit

theorem put_not : ∀ {l : List BindD} {b : BindD}, (∀ x ∈ l, ltS b.v x.v = false) → putB l b = l ++ [b]
  | [], b, _ => rfl
  | y :: l, b, h => by
    rw [putB_cons, if_neg (by simp [h y (List.mem_cons_self ..)]), put_not (fun x hx => h x (List.mem_cons_of_mem _ hx))]
    rfl
theorem put_app_in : ∀ {l : List BindD} {b : BindD} (y : BindD), (∃ x ∈ l, ltS b.v x.v = true) → putB (l ++ [y]) b = putB l b ++ [y]
  | [], b, y, h => by obtain ⟨x, hx, _⟩ := h; cases hx
  | z :: l, b, y, h => by
    rw [List.cons_append, putB_cons, putB_cons]
    by_cases hz : ltS b.v z.v = true
    · rw [if_pos hz, if_pos hz]; rfl
    · rw [if_neg hz, if_neg hz, put_app_in y (by
        obtain ⟨x, hx, hh⟩ := h
        rcases List.mem_cons.1 hx with rfl | hx
        · exact absurd hh hz
        · exact ⟨x, hx, hh⟩)]
      rfl
theorem put_app_new : ∀ {l : List BindD} {b y : BindD}, (∀ x ∈ l, ltS b.v x.v = false) → ltS b.v y.v = true → putB (l ++ [y]) b = l ++ [b] ++ [y]
  | [], b, y, _, h => by show (if ltS b.v y.v then b :: y :: [] else y :: putB [] b) = _; rw [if_pos h]; rfl
  | z :: l, b, y, h, hy => by
    rw [List.cons_append, putB_cons, if_neg (by simp [h z (List.mem_cons_self ..)]), put_app_new (fun x hx => h x (List.mem_cons_of_mem _ hx)) hy]
    rfl
def InvP (l : List BindD) (b : BindD) (k : Nat) (inn : Bool) (out : List BindD) : Prop :=
  if inn then (∃ x ∈ l.take k, ltS b.v x.v = true) ∧ out = putB (l.take k) b else (∀ x ∈ l.take k, ltS b.v x.v = false) ∧ out = l.take k
theorem take_one {l : List BindD} {k : Nat} {x : BindD} (h : l[k]? = some x) : l.take (k + 1) = l.take k ++ [x] := by rw [List.take_add_one, h]; rfl
theorem invP_zero (l : List BindD) (b : BindD) : InvP l b 0 false [] := by simp [InvP]
theorem invP_no {l : List BindD} {b : BindD} {k : Nat} {out : List BindD} {x : BindD} (hx : l[k]? = some x) (h : InvP l b k false out) (hn : ltS b.v x.v = false) : InvP l b (k + 1) false (out ++ [x]) := by
  unfold InvP at h ⊢
  simp only [Bool.false_eq_true, if_false] at h ⊢
  rw [take_one hx]
  refine ⟨fun y hy => ?_, by rw [h.2]⟩
  rcases List.mem_append.1 hy with hy | hy
  · exact h.1 y hy
  · obtain rfl := List.mem_singleton.1 hy; exact hn
theorem invP_new {l : List BindD} {b : BindD} {k : Nat} {out : List BindD} {x : BindD} (hx : l[k]? = some x) (h : InvP l b k false out) (hn : ltS b.v x.v = true) : InvP l b (k + 1) true (out ++ [b] ++ [x]) := by
  unfold InvP at h ⊢
  simp only [Bool.false_eq_true, if_false, if_true] at h ⊢
  rw [take_one hx]
  exact ⟨⟨x, by simp, hn⟩, by rw [put_app_new h.1 hn, h.2]⟩
theorem invP_in {l : List BindD} {b : BindD} {k : Nat} {out : List BindD} {x : BindD} (hx : l[k]? = some x) (h : InvP l b k true out) : InvP l b (k + 1) true (out ++ [x]) := by
  unfold InvP at h ⊢
  simp only [if_true] at h ⊢
  rw [take_one hx]
  refine ⟨?_, by rw [put_app_in x h.1, h.2]⟩
  obtain ⟨y, hy, hh⟩ := h.1
  exact ⟨y, List.mem_append_left _ hy, hh⟩
theorem invP_end_no {l : List BindD} {b : BindD} {out : List BindD} (h : InvP l b l.length false out) : putB l b = out ++ [b] := by
  unfold InvP at h
  simp only [Bool.false_eq_true, if_false, List.take_length] at h
  rw [put_not h.1, h.2]
theorem invP_end_in {l : List BindD} {b : BindD} {out : List BindD} (h : InvP l b l.length true out) : putB l b = out := by
  unfold InvP at h
  simp only [if_true, List.take_length] at h
  exact h.2.symm

end Go.Proofs.YtkcnbdlhggoojaaDoor
namespace Go.Proofs.YtkcnbdlhggoojaaDoor
open Go.RowKit

end Go.Proofs.YtkcnbdlhggoojaaDoor
