/-
  An atom under bindings of some variables only. Lists of texts that a call makes. Conditions: as each says.
-/
import Derived.Test.YtkcnbdlhggoojaaDoorSgF
import Derived.Test.YtkcnbdlhggoojaaDoorSgG
namespace Go.Proofs.YtkcnbdlhggoojaaDoor
open Go.RowKit

theorem rest_cons (b : BindD) (l : List BindD) (vs : List ByteArray) : restD (b :: l) vs = if Lib.containsS vs b.v then b :: restD l vs else restD l vs := by
  unfold restD; rw [List.filter_cons]
theorem getB_rest : ∀ (l : List BindD) (vs : List ByteArray) (v : ByteArray), getB (restD l vs) v = if Lib.containsS vs v then getB l v else none
  | [], vs, v => by simp [restD, getB]
  | b :: l, vs, v => by
    rw [rest_cons, getB_cons]
    have ih := getB_rest l vs v
    cases h : Lib.containsS vs b.v
    · rw [if_neg (by decide), ih]
      by_cases e : b.v = v
      · subst e; rw [h]; rfl
      · rw [if_neg e]
    · rw [if_pos rfl, getB_cons, ih]
      by_cases e : b.v = v
      · subst e; rw [h]; rfl
      · rw [if_neg e, if_neg e]
theorem sub_rest {l : List BindD} {vs : List ByteArray} {t : TermD} (h : t.v = true → Lib.containsS vs t.name = true) : subT (restD l vs) t = subT l t := by
  unfold subT
  cases ht : t.v
  · rfl
  · rw [getB_rest, h ht]; rfl
theorem sub_out {l : List BindD} {vs : List ByteArray} {t : TermD} (h : t.v = true → Lib.containsS vs t.name = false) : subT (restD l vs) t = t := by
  unfold subT
  cases ht : t.v
  · rfl
  · rw [getB_rest, h ht]; rfl
/-- an atom's variables -/
def varsA (a : AtomD) : List ByteArray := namesD true ((argsD a).take (cntI a.n))
theorem vars_has {a : AtomD} {i : Nat} {t : TermD} (hi : i < cntI a.n) (ht : (argsD a)[i]? = some t) (hv : t.v = true) : Lib.containsS (varsA a) t.name = true := by
  rw [Lib.containsS_iff]
  refine (names_mem true _ _).2 ⟨t, ?_, hv, rfl⟩
  refine List.mem_of_getElem? (i := i) ?_
  rw [List.getElem?_take, if_pos hi, ht]
theorem apply_nil (a : AtomD) : applyA [] a = a := by
  have e : ∀ t, subT [] t = t := fun t => by unfold subT; split <;> rfl
  unfold applyA
  simp only [e, ite_self]
theorem apply_rest (l : List BindD) (a : AtomD) : applyA (restD l (varsA a)) a = applyA l a :=
  apply_ext rfl rfl rfl (fun i _ t u ht hu => by
    obtain rfl : t = u := by rw [ht] at hu; injection hu
    by_cases hi : i < cntI a.n
    · rw [if_pos hi, if_pos hi]; exact sub_rest (vars_has hi ht)
    · rw [if_neg hi, if_neg hi])
/-- the variables of a list that are not among others -/
def othersD (vs : List ByteArray) (l : List BindD) : List ByteArray := (l.filter (fun b => !Lib.containsS vs b.v)).map (·.v)
theorem others_has {vs : List ByteArray} {l : List BindD} {b : BindD} (hb : b ∈ l) : Lib.containsS (othersD vs l) b.v = !Lib.containsS vs b.v := by
  cases h : Lib.containsS vs b.v
  · exact hasS_true (List.mem_map.2 ⟨b, List.mem_filter.2 ⟨hb, by rw [h]; rfl⟩, rfl⟩)
  · refine hasS_false (fun hm => ?_)
    obtain ⟨c, hc, e⟩ := List.mem_map.1 hm
    have := (List.mem_filter.1 hc).2
    rw [e, h] at this
    cases this
theorem others_not {vs : List ByteArray} {l : List BindD} {s : ByteArray} (h : Lib.containsS vs s = true) : Lib.containsS (othersD vs l) s = false := hasS_false (fun hm => by
  obtain ⟨c, hc, e⟩ := List.mem_map.1 hm
  have := (List.mem_filter.1 hc).2
  rw [e, h] at this
  cases this)
theorem apply_out (l : List BindD) (a : AtomD) : applyA (restD l (othersD (varsA a) l)) a = a := by
  refine (apply_ext (m := []) (b := a) rfl rfl rfl (fun i _ t u ht hu => ?_)).trans (apply_nil a)
  obtain rfl : t = u := by rw [ht] at hu; injection hu
  by_cases hi : i < cntI a.n
  · rw [if_pos hi, if_pos hi, sub_out (fun hv => others_not (vars_has hi ht hv))]
    unfold subT; split <;> rfl
  · rw [if_neg hi, if_neg hi]
theorem rest_others (vs : List ByteArray) (l : List BindD) : restD l (othersD vs l) = l.filter (fun b => !Lib.containsS vs b.v) :=
  List.filter_congr (fun b hb => others_has hb)
theorem len_parts (vs : List ByteArray) (l : List BindD) : (restD l vs).length + (restD l (othersD vs l)).length = l.length := by
  rw [rest_others]
  unfold restD
  induction l with
  | nil => rfl
  | cons b l ih =>
    rw [List.filter_cons, List.filter_cons]
    cases Lib.containsS vs b.v <;> simp <;> omega
theorem others_succ {vs : List ByteArray} {l : List BindD} {k : Nat} {x : BindD} (h : l[k]? = some x) : othersD vs (l.take (k + 1)) = othersD vs (l.take k) ++ (if Lib.containsS vs x.v then [] else [x.v]) := by
  unfold othersD
  rw [List.take_add_one, h, List.filter_append, List.map_append]
  congr 1
  simp only [Option.toList, List.filter_cons, List.filter_nil]
  cases Lib.containsS vs x.v <;> rfl
theorem others_len (vs : List ByteArray) (l : List BindD) : (othersD vs l).length ≤ l.length := by
  unfold othersD
  rw [List.length_map]
  exact List.length_filter_le _ _
theorem varsA_len (a : AtomD) : (varsA a).length ≤ 4 := by
  have h1 := names_len true ((argsD a).take (cntI a.n))
  have h2 := cntI_le a.n
  rw [List.length_take] at h1
  unfold varsA
  omega

/-- a text among the first ones -/
def hit (vs : List ByteArray) (x : ByteArray) (j : Nat) : Bool := (vs.take j).any (fun y => y.toList == x.toList)
theorem hit_zero (vs : List ByteArray) (x : ByteArray) : hit vs x 0 = false := rfl
theorem hit_succ {vs : List ByteArray} {x : ByteArray} {j : Nat} (h : j < vs.length) : hit vs x (j + 1) = (hit vs x j || (vs[j].toList == x.toList)) := by
  unfold hit
  rw [List.take_add_one, List.getElem?_eq_getElem h, List.any_append]
  simp
theorem hit_all (vs : List ByteArray) (x : ByteArray) : hit vs x vs.length = Lib.containsS vs x := by
  rw [Bool.eq_iff_iff, Lib.containsS_iff]
  unfold hit
  rw [List.take_length, List.any_eq_true]
  constructor
  · rintro ⟨y, hy, e⟩
    rw [ba_ext (beq_iff_eq.1 e)] at hy
    exact hy
  · intro h
    exact ⟨x, h, by simp⟩

abbrev OS (w W : World) (q : Option Addr) (c : Nat) (l : List ByteArray) : Prop := OwnL encS 1 9 w W (.slice q l.length c) l
theorem OS.nil (w : World) {W : World} (hb : Bel w W) : OS w W none 0 [] := OwnL.nil w hb
theorem wpList_pushS {ops : Array Oper} {rest : List Oper} {o : Oper} {a : Act} {w W : World} {Q : Exit → Act → World → Prop} (hgd : o.guard = none) (s x : Operand) (t : TypeId) (ht : Tryd.prog.underlying t = some (.slice 9))
    (ho : o.op = .call { callee := .builtin .append, args := #[s, x], argTypes := #[t, t] }) {q : Option Addr} {c : Nat} {out : List ByteArray} (b : ByteArray) (hs : a.eval s = .slice q out.length c) (hx : a.eval x = .slice (some ⟨W.heap.size, 0, none⟩) 1 1)
    (hO : OS w W q c out) (hl : out.length ≤ 2000000)
    (h : ∀ q' c' w' out', RowKit.Hid (out' = out ++ [b]) → RowKit.Hid (OS w w' q' c' out') → wpList Tryd.prog ops Q rest (a.put o.dst (.slice q' out'.length c')) w') :
    wpList Tryd.prog ops Q (o :: rest) a (W.alloc (.cells #[.string b] 9)) := by
  obtain ⟨i0, hi, hz0, hz1, hz2⟩ := info_str
  have hO2 := hO.bel' (bel_alloc W (.cells #[.string b] 9))
  refine wpList_append_mine _ hgd s x t ho 9 i0 _ 1 16 ht hi hz0 hz1 hz2 rfl (by decide) (.slice q out.length c) out.length (flatL encS out) hs hO2.row _ 1 1 (encS b) hx rfl new_one str_one (by unfold maxLen; omega) (by omega) ?_
  intro v2 w2 ho2 hf2 hn2
  have hP := OwnL.push (x := b) hO (bel_alloc W (.cells #[.string b] 9)) ho2 hf2 hn2
  obtain ⟨q', c', rfl⟩ := hP.value
  exact h q' c' w2 (out ++ [b]) (Lib.hid rfl) (Lib.hid hP)
end Go.Proofs.YtkcnbdlhggoojaaDoor
