/-
  An atom under bindings of some variables only. Lists of texts that a call makes. Conditions: as each says. The law SubstParts for every input. Conditions: what came in lies as its parameters' types say. The statements' helper Same at one list of bindings laid twice; the reference's Restrict. Conditions: as each says. An atom whose variables are bound to constants, all of them or all but one. No condition. The chapter's example: what each call answers; a list appended to a full one. Conditions: as each says.
-/
import Derived.Test.YtiokjjiakcbmhaaDoorSgF
import Derived.Test.YtiokjjiakcbmhaaDoorSgG
namespace Go.Proofs.YtiokjjiakcbmhaaDoor
open Go.RowKit

theorem rest_cons (b : BindD) (l : List BindD) (vs : List ByteArray) : restD (b :: l) vs = if Lib.containsS vs b.v then b :: restD l vs else restD l vs := by
  unfold restD; rw [List.filter_cons]
theorem getB_rest : ∀ (l : List BindD) (vs : List ByteArray) (v : ByteArray), getB (restD l vs) v = if Lib.containsS vs v then getB l v else none
  | [], vs, v => by simp [restD, getB]
  | b :: l, vs, v => by
    rw [rest_cons, getB_cons]
    have ih := getB_rest l vs v
    cases h : Lib.containsS vs b.v
    · rw [if_neg (by decide), ih]
      by_cases e : b.v = v
      · subst e; rw [h]; rfl
      · rw [if_neg e]
    · rw [if_pos rfl, getB_cons, ih]
      by_cases e : b.v = v
      · subst e; rw [h]; rfl
      · rw [if_neg e, if_neg e]
theorem sub_rest {l : List BindD} {vs : List ByteArray} {t : TermD} (h : t.v = true → Lib.containsS vs t.name = true) : subT (restD l vs) t = subT l t := by
  unfold subT
  cases ht : t.v
  · rfl
  · rw [getB_rest, h ht]; rfl
theorem sub_out {l : List BindD} {vs : List ByteArray} {t : TermD} (h : t.v = true → Lib.containsS vs t.name = false) : subT (restD l vs) t = t := by
  unfold subT
  cases ht : t.v
  · rfl
  · rw [getB_rest, h ht]; rfl
/-- an atom's variables -/
def varsA (a : AtomD) : List ByteArray := namesD true ((argsD a).take (cntI a.n))
theorem vars_has {a : AtomD} {i : Nat} {t : TermD} (hi : i < cntI a.n) (ht : (argsD a)[i]? = some t) (hv : t.v = true) : Lib.containsS (varsA a) t.name = true := by
  rw [Lib.containsS_iff]
  refine (names_mem true _ _).2 ⟨t, ?_, hv, rfl⟩
  refine List.mem_of_getElem? (i := i) ?_
  rw [List.getElem?_take, if_pos hi, ht]
theorem apply_nil (a : AtomD) : applyA [] a = a := by
  have e : ∀ t, subT [] t = t := fun t => by unfold subT; split <;> rfl
  unfold applyA
  simp only [e, ite_self]
theorem apply_rest (l : List BindD) (a : AtomD) : applyA (restD l (varsA a)) a = applyA l a :=
  apply_ext rfl rfl rfl (fun i _ t u ht hu => by
    obtain rfl : t = u := by rw [ht] at hu; injection hu
    by_cases hi : i < cntI a.n
    · rw [if_pos hi, if_pos hi]; exact sub_rest (vars_has hi ht)
    · rw [if_neg hi, if_neg hi])
/-- the variables of a list that are not among others -/
def othersD (vs : List ByteArray) (l : List BindD) : List ByteArray := (l.filter (fun b => !Lib.containsS vs b.v)).map (·.v)
theorem others_has {vs : List ByteArray} {l : List BindD} {b : BindD} (hb : b ∈ l) : Lib.containsS (othersD vs l) b.v = !Lib.containsS vs b.v := by
  cases h : Lib.containsS vs b.v
  · exact hasS_true (List.mem_map.2 ⟨b, List.mem_filter.2 ⟨hb, by rw [h]; rfl⟩, rfl⟩)
  · refine hasS_false (fun hm => ?_)
    obtain ⟨c, hc, e⟩ := List.mem_map.1 hm
    have := (List.mem_filter.1 hc).2
    rw [e, h] at this
    cases this
theorem others_not {vs : List ByteArray} {l : List BindD} {s : ByteArray} (h : Lib.containsS vs s = true) : Lib.containsS (othersD vs l) s = false := hasS_false (fun hm => by
  obtain ⟨c, hc, e⟩ := List.mem_map.1 hm
  have := (List.mem_filter.1 hc).2
  rw [e, h] at this
  cases this)
theorem apply_out (l : List BindD) (a : AtomD) : applyA (restD l (othersD (varsA a) l)) a = a := by
  refine (apply_ext (m := []) (b := a) rfl rfl rfl (fun i _ t u ht hu => ?_)).trans (apply_nil a)
  obtain rfl : t = u := by rw [ht] at hu; injection hu
  by_cases hi : i < cntI a.n
  · rw [if_pos hi, if_pos hi, sub_out (fun hv => others_not (vars_has hi ht hv))]
    unfold subT; split <;> rfl
  · rw [if_neg hi, if_neg hi]
theorem rest_others (vs : List ByteArray) (l : List BindD) : restD l (othersD vs l) = l.filter (fun b => !Lib.containsS vs b.v) :=
  List.filter_congr (fun b hb => others_has hb)
theorem len_parts (vs : List ByteArray) (l : List BindD) : (restD l vs).length + (restD l (othersD vs l)).length = l.length := by
  rw [rest_others]
  unfold restD
  induction l with
  | nil => rfl
  | cons b l ih =>
    rw [List.filter_cons, List.filter_cons]
    cases Lib.containsS vs b.v <;> simp <;> omega
theorem others_succ {vs : List ByteArray} {l : List BindD} {k : Nat} {x : BindD} (h : l[k]? = some x) : othersD vs (l.take (k + 1)) = othersD vs (l.take k) ++ (if Lib.containsS vs x.v then [] else [x.v]) := by
  unfold othersD
  rw [List.take_add_one, h, List.filter_append, List.map_append]
  congr 1
  simp only [Option.toList, List.filter_cons, List.filter_nil]
  cases Lib.containsS vs x.v <;> rfl
theorem others_len (vs : List ByteArray) (l : List BindD) : (othersD vs l).length ≤ l.length := by
  unfold othersD
  rw [List.length_map]
  exact List.length_filter_le _ _
theorem varsA_len (a : AtomD) : (varsA a).length ≤ 4 := by
  have h1 := names_len true ((argsD a).take (cntI a.n))
  have h2 := cntI_le a.n
  rw [List.length_take] at h1
  unfold varsA
  omega

/-- a text among the first ones -/
def hit (vs : List ByteArray) (x : ByteArray) (j : Nat) : Bool := (vs.take j).any (fun y => y.toList == x.toList)
theorem hit_zero (vs : List ByteArray) (x : ByteArray) : hit vs x 0 = false := rfl
theorem hit_succ {vs : List ByteArray} {x : ByteArray} {j : Nat} (h : j < vs.length) : hit vs x (j + 1) = (hit vs x j || (vs[j].toList == x.toList)) := by
  unfold hit
  rw [List.take_add_one, List.getElem?_eq_getElem h, List.any_append]
  simp
theorem hit_all (vs : List ByteArray) (x : ByteArray) : hit vs x vs.length = Lib.containsS vs x := by
  rw [Bool.eq_iff_iff, Lib.containsS_iff]
  unfold hit
  rw [List.take_length, List.any_eq_true]
  constructor
  · rintro ⟨y, hy, e⟩
    rw [ba_ext (beq_iff_eq.1 e)] at hy
    exact hy
  · intro h
    exact ⟨x, h, by simp⟩

abbrev OS (w W : World) (q : Option Addr) (c : Nat) (l : List ByteArray) : Prop := OwnL encS 1 9 w W (.slice q l.length c) l
theorem OS.nil (w : World) {W : World} (hb : Bel w W) : OS w W none 0 [] := OwnL.nil w hb
theorem wpList_pushS {ops : Array Oper} {rest : List Oper} {o : Oper} {a : Act} {w W : World} {Q : Exit → Act → World → Prop} (hgd : o.guard = none) (s x : Operand) (t : TypeId) (ht : Tryd.prog.underlying t = some (.slice 9))
    (ho : o.op = .call { callee := .builtin .append, args := #[s, x], argTypes := #[t, t] }) {q : Option Addr} {c : Nat} {out : List ByteArray} (b : ByteArray) (hs : a.eval s = .slice q out.length c) (hx : a.eval x = .slice (some ⟨W.heap.size, 0, none⟩) 1 1)
    (hO : OS w W q c out) (hl : out.length ≤ 2000000)
    (h : ∀ q' c' w' out', RowKit.Hid (out' = out ++ [b]) → RowKit.Hid (OS w w' q' c' out') → wpList Tryd.prog ops Q rest (a.put o.dst (.slice q' out'.length c')) w') :
    wpList Tryd.prog ops Q (o :: rest) a (W.alloc (.cells #[.string b] 9)) := by
  obtain ⟨i0, hi, hz0, hz1, hz2⟩ := info_str
  have hO2 := hO.bel' (bel_alloc W (.cells #[.string b] 9))
  refine wpList_append_mine _ hgd s x t ho 9 i0 _ 1 16 ht hi hz0 hz1 hz2 rfl (by decide) (.slice q out.length c) out.length (flatL encS out) hs hO2.row _ 1 1 (encS b) hx rfl new_one str_one (by unfold maxLen; omega) (by omega) ?_
  intro v2 w2 ho2 hf2 hn2
  have hP := OwnL.push (x := b) hO (bel_alloc W (.cells #[.string b] 9)) ho2 hf2 hn2
  obtain ⟨q', c', rfl⟩ := hP.value
  exact h q' c' w2 (out ++ [b]) (Lib.hid rfl) (Lib.hid hP)
end Go.Proofs.YtiokjjiakcbmhaaDoor
namespace Go.Proofs.YtiokjjiakcbmhaaDoor
open Go.RowKit

theorem wrap_small (n : Nat) (h : n ≤ 1000) : IntKind.i64.wrap (n : Int) = n := by
  have h2 := wrap_i64_ediv (n : Int) 1 (by omega) (by omega) (by omega)
  rwa [Int.ediv_one] at h2
end Go.Proofs.YtiokjjiakcbmhaaDoor
namespace Go.Proofs.YtiokjjiakcbmhaaDoor
open Go.RowKit

def eqB (a b : BindD) : Bool := a.v == b.v && eqT a.t b.t
theorem eqB_self (a : BindD) : eqB a a = true := by
  unfold eqB
  rw [Bool.and_eq_true]
  exact ⟨(ba_eq _ _).2 rfl, (eqT_iff _ _).2 rfl⟩
theorem eqin_bind (w : World) (d : Nat) (a b : BindD) : (Op.equalIn (d + 3) 43 (.agg #[.string a.v, .bool a.t.v, .string a.t.name]) (.agg #[.string b.v, .bool b.t.v, .string b.t.name])).run Tryd.prog w = .ok (eqB a b) w := by
  have hst : Tryd.prog.stoodInHeld 43 = false := by kernel_rfl
  have p0 : ∀ (a b c : Value) (w : World), (part 9 #[a, b, c] 0).run Tryd.prog w = .ok a w := fun _ _ _ _ => by kernel_rfl
  have p1 : ∀ (a b c : Value) (w : World), (part 24 #[a, b, c] 1).run Tryd.prog w = .ok (.agg #[b, c]) w := fun _ _ _ _ => by kernel_rfl
  have h0 := fun w => eqin_str w (d + 1) a.v b.v
  have h1 := fun w => eqin_term w d a.t b.t
  unfold eqB
  rw [Op.equalIn]
  cases e0 : a.v == b.v <;> cases e1 : eqT a.t b.t <;> rw [e0] at h0 <;> rw [e1] at h1 <;>
    simp [run_underlying Tryd.underlying43, hst, p0, p1, h0, h1]
theorem neq_bind (a b : BindD) (w : World) : (binOp .neq 43 (.agg #[.string a.v, .bool a.t.v, .string a.t.name]) (.agg #[.string b.v, .bool b.t.v, .string b.t.name])).run Tryd.prog w = .ok (.bool (!eqB a b)) w := by
  have h := eqin_bind w 9997 a b
  simp only [binOp]
  simp [Op.equal, Op.maxDepth, h]

end Go.Proofs.YtiokjjiakcbmhaaDoor
namespace Go.Proofs.YtiokjjiakcbmhaaDoor
open Go.RowKit

theorem names_once4 (v : Bool) (l : List TermD) : (namesD v l).Pairwise (fun x y => x ≠ y) := by
  unfold namesD
  suffices h : ∀ (l : List TermD) (x : List ByteArray), x.Pairwise (fun x y => x ≠ y) → (l.foldl (stepN v) x).Pairwise (fun x y => x ≠ y) from h l [] List.Pairwise.nil
  intro l
  induction l with
  | nil => intro x hx; exact hx
  | cons t l ih =>
    intro x hx
    refine ih _ ?_
    unfold stepN
    split
    · rename_i h
      simp only [Bool.and_eq_true, Bool.not_eq_true'] at h
      refine List.pairwise_append.2 ⟨hx, List.pairwise_singleton _ _, fun y hy z hz => ?_⟩
      obtain rfl := List.mem_singleton.1 hz
      intro e
      subst e
      rw [hasS_true hy] at h
      cases h.2
    · exact hx
/-- constants for the first k of the variables, and for nothing else -/
structure GInv (vs : List ByteArray) (k : Nat) (l : List BindD) : Prop where
  ok : checkB l = true
  len : l.length = k
  has : ∀ j (h : j < vs.length), j < k → (getB l vs[j]).isSome = true
  cst : ∀ s t, getB l s = some t → t.v = false ∧ termB t = true ∧ s ∈ vs.take k
  sz : ∀ s t, getB l s = some t → t.name.size ≤ 9223372036854775807
theorem ginv_zero (vs : List ByteArray) : GInv vs 0 [] := ⟨by decide, rfl, fun j _ h => by omega, fun s t h => by simp [getB] at h, fun s t h => by simp [getB] at h⟩
theorem termB_ne {t : TermD} (h : termB t = true) (he : ∀ v, termB ⟨v, emp⟩ = false) : t.name ≠ emp := fun e => by
  obtain ⟨v, s⟩ := t
  simp only at e
  subst e
  rw [he] at h; cases h
theorem ginv_step {vs : List ByteArray} {k : Nat} {l : List BindD} {c : ByteArray} (hd : vs.Pairwise (fun x y => x ≠ y)) (hk : k < vs.length) (G : GInv vs k l) (hc : termB ⟨false, c⟩ = true) (hce : c ≠ emp) (hve : vs[k] ≠ emp) (hcz : c.size ≤ 9223372036854775807) :
    ∃ m, bindD l vs[k] ⟨false, c⟩ = (m, 0) ∧ GInv vs (k + 1) m := by
  have hs : subT l ⟨false, c⟩ = ⟨false, c⟩ := rfl
  have hno : getB l vs[k] = none := by
    cases e : getB l vs[k] with
    | none => rfl
    | some t =>
      have h1 := (G.cst _ _ e).2.2
      obtain ⟨j, hj, e2⟩ := List.getElem_of_mem h1
      rw [List.getElem_take] at e2
      have hjk : j < k := by rw [List.length_take] at hj; omega
      exact absurd e2 (List.pairwise_iff_getElem.1 hd j k (by omega) hk hjk)
  have hb := bind_ok (l := l) (v := vs[k]) (t := ⟨false, c⟩) G.ok (fun h => h.elim hve hce) (by rw [hno]; rfl) (by rw [hs]; rfl)
  refine ⟨_, hb, bind_check G.ok hb, ?_, fun j hj hjk => ?_, fun s t h => ?_, fun s t h => ?_⟩
  · rw [putB_len, List.length_map, G.len]
  · rw [bind_get G.ok hb]
    split
    · rfl
    · rename_i e
      have hjk2 : j < k := by
        by_cases e2 : j = k
        · subst e2; exact absurd rfl e
        · omega
      have := G.has j hj hjk2
      cases q : getB l vs[j] with
      | none => rw [q] at this; cases this
      | some u => rfl
  · rw [bind_get G.ok hb] at h
    split at h
    · rename_i e
      injection h with h
      subst h
      subst e
      exact ⟨rfl, hc, by rw [List.take_add_one, List.getElem?_eq_getElem hk]; exact List.mem_append_right _ (by simp [hs])⟩
    · cases q : getB l s with
      | none => rw [q] at h; cases h
      | some u =>
        rw [q] at h
        obtain ⟨h1, h2, h3⟩ := G.cst _ _ q
        simp only [Option.map_some, Option.some.injEq] at h
        have : subT [⟨vs[k], subT l ⟨false, c⟩⟩] u = u := by unfold subT; rw [if_neg (by rw [h1]; decide)]
        rw [this] at h
        subst h
        exact ⟨h1, h2, by rw [List.take_add_one]; exact List.mem_append_left _ h3⟩
  · rw [bind_get G.ok hb] at h
    split at h
    · injection h with h
      subst h
      exact hcz
    · cases q : getB l s with
      | none => rw [q] at h; cases h
      | some u =>
        rw [q] at h
        obtain ⟨h1, h2, h3⟩ := G.cst _ _ q
        simp only [Option.map_some, Option.some.injEq] at h
        have : subT [⟨vs[k], subT l ⟨false, c⟩⟩] u = u := by unfold subT; rw [if_neg (by rw [h1]; decide)]
        rw [this] at h
        subst h
        exact G.sz _ _ q
/-- under constants for all of its variables a term is one -/
theorem sub_ground {vs : List ByteArray} {l : List BindD} (G : GInv vs vs.length l) {t : TermD} (ht : t.v = true → t.name ∈ vs) (hok : termB t = true) : (subT l t).v = false ∧ termB (subT l t) = true := by
  unfold subT
  cases hv : t.v
  · rw [if_neg (by decide)]; exact ⟨hv, hok⟩
  · rw [if_pos rfl]
    obtain ⟨j, hj, e⟩ := List.getElem_of_mem (ht hv)
    have h1 := G.has j hj hj
    rw [e] at h1
    cases q : getB l t.name with
    | none => rw [q] at h1; cases h1
    | some u => exact ⟨(G.cst _ _ q).1, (G.cst _ _ q).2.1⟩
theorem sub_size {vs : List ByteArray} {k : Nat} {l : List BindD} (G : GInv vs k l) {t : TermD} (ht : t.name.size ≤ 9223372036854775807) : (subT l t).name.size ≤ 9223372036854775807 := by
  unfold subT
  split
  · cases q : getB l t.name with
    | none => exact ht
    | some u => exact G.sz _ _ q
  · exact ht
theorem apply_okA {vs : List ByteArray} {k : Nat} {l : List BindD} (G : GInv vs k l) {a : AtomD} (ha : AtomOk a) : AtomOk (applyA l a) := by
  refine ⟨ha.says, ha.pred, ha.n, ?_, ?_, ?_, ?_⟩
  all_goals
    unfold applyA
    simp only
    split
  · exact sub_size G ha.t0
  · exact ha.t0
  · exact sub_size G ha.t1
  · exact ha.t1
  · exact sub_size G ha.t2
  · exact ha.t2
  · exact sub_size G ha.t3
  · exact ha.t3
theorem args_apply (l : List BindD) (a : AtomD) : (argsD (applyA l a)).take (cntI (applyA l a).n) = ((argsD a).take (cntI a.n)).map (subT l) := by
  show (argsD (applyA l a)).take (cntI a.n) = _
  unfold applyA argsD
  have := cntI_le a.n
  generalize cntI a.n = k at this ⊢
  obtain rfl | rfl | rfl | rfl | rfl : k = 0 ∨ k = 1 ∨ k = 2 ∨ k = 3 ∨ k = 4 := by omega
  all_goals rfl
theorem args_rest (l : List BindD) (a : AtomD) : (argsD (applyA l a)).drop (cntI (applyA l a).n) = (argsD a).drop (cntI a.n) := by
  show (argsD (applyA l a)).drop (cntI a.n) = _
  unfold applyA argsD
  have := cntI_le a.n
  generalize cntI a.n = k at this ⊢
  obtain rfl | rfl | rfl | rfl | rfl : k = 0 ∨ k = 1 ∨ k = 2 ∨ k = 3 ∨ k = 4 := by omega
  all_goals rfl
theorem vars_mem {a : AtomD} {t : TermD} (ht : t ∈ (argsD a).take (cntI a.n)) (hv : t.v = true) : t.name ∈ varsA a := (names_mem true _ _).2 ⟨t, ht, hv, rfl⟩
theorem one_only {l : List ByteArray} {x : ByteArray} (hd : l.Pairwise (fun x y => x ≠ y)) (hx : x ∈ l) (ho : ∀ y ∈ l, y = x) : l = [x] := by
  match l, hx with
  | [y], _ => rw [ho y (by simp)]
  | y :: z :: l, _ =>
    have h1 := ho y (by simp)
    have h2 := ho z (by simp)
    exact absurd (h1.trans h2.symm) ((List.pairwise_cons.1 hd).1 z (by simp))
/-- without one of them exactly that variable is left -/
theorem vars_left {a : AtomD} {l : List BindD} (G : GInv (varsA a) (varsA a).length l) (k : Nat) (hk : k < (varsA a).length) (rest : List ByteArray) (hr : ∀ s, s ∈ rest ↔ s ∈ varsA a ∧ s ≠ (varsA a)[k]) :
    varsA (applyA (restD l rest) a) = [(varsA a)[k]] := by
  have key : ∀ s, s ∈ varsA (applyA (restD l rest) a) ↔ s = (varsA a)[k] := fun s => by
    unfold varsA
    rw [args_apply]
    refine (names_mem true _ _).trans ?_
    constructor
    · rintro ⟨t, ht, hv, rfl⟩
      obtain ⟨u, hu, rfl⟩ := List.mem_map.1 ht
      cases huv : u.v
      · have : subT (restD l rest) u = u := by unfold subT; rw [if_neg (by rw [huv]; decide)]
        rw [this, huv] at hv; cases hv
      · have hm := vars_mem hu huv
        by_cases e : u.name = (varsA a)[k]
        · have : subT (restD l rest) u = u := sub_out (fun _ => hasS_false (fun h => ((hr _).1 h).2 e))
          rw [this]; exact e
        · have e2 : subT (restD l rest) u = subT l u := sub_rest (fun _ => hasS_true ((hr _).2 ⟨hm, e⟩))
          rw [e2] at hv
          obtain ⟨j, hj, e3⟩ := List.getElem_of_mem hm
          have h1 := G.has j hj hj
          rw [e3] at h1
          unfold subT at hv
          rw [if_pos huv] at hv
          cases q : getB l u.name with
          | none => rw [q] at h1; cases h1
          | some x =>
            rw [q] at hv
            have := (G.cst _ _ q).1
            simp only [Option.getD_some] at hv
            rw [this] at hv; cases hv
    · rintro rfl
      obtain ⟨t, ht, hv, e⟩ := (names_mem true _ _).1 (List.getElem_mem hk : (varsA a)[k] ∈ varsA a)
      have : subT (restD l rest) t = t := sub_out (fun _ => hasS_false (fun h => ((hr _).1 h).2 e))
      exact ⟨_, List.mem_map.2 ⟨t, ht, rfl⟩, by rw [this]; exact hv, by rw [this]; exact e⟩
  exact one_only (names_once4 _ _) ((key _).2 rfl) (fun y hy => (key y).1 hy)
theorem check_parts {a : AtomD} (h : checkD a = 0) : (prinB a.says && prinB a.pred) = true ∧ ¬ (a.n < 0 ∨ 4 < a.n) ∧ ((argsD a).take (cntI a.n)).all termB = true ∧ zerosB ((argsD a).drop (cntI a.n)) = true := by
  unfold checkD at h
  split at h
  · rename_i h1
    split at h
    · cases h
    · rename_i h2
      split at h
      · rename_i h3
        split at h
        · rename_i h4
          exact ⟨h1, h2, h3, h4⟩
        · cases h
      · cases h
  · cases h
theorem ground_all {a : AtomD} {l : List BindD} (G : GInv (varsA a) (varsA a).length l) (h : checkD a = 0) : groundD (applyA l a) = true ∧ checkD (applyA l a) = 0 := by
  obtain ⟨h1, h2, h3, h4⟩ := check_parts h
  have h5 : ∀ t ∈ (argsD a).take (cntI a.n), (subT l t).v = false ∧ termB (subT l t) = true := fun t ht => sub_ground G (vars_mem ht) (List.all_eq_true.1 h3 t ht)
  constructor
  · unfold groundD cntD
    rw [args_apply, List.all_map, List.all_eq_true]
    intro t ht
    simp only [Function.comp, (h5 t ht).1]; rfl
  · refine check_ok (a := applyA l a) h1 h2 ?_ ?_
    · rw [args_apply, List.all_map, List.all_eq_true]
      intro t ht
      exact (h5 t ht).2
    · rw [args_rest]; exact h4
theorem termB_emp (v : Bool) : termB ⟨v, emp⟩ = false := by cases v <;> decide +kernel
theorem vars_ne {a : AtomD} (h : checkD a = 0) (k : Nat) (hk : k < (varsA a).length) : (varsA a)[k] ≠ emp := by
  obtain ⟨t, ht, hv, e⟩ := (names_mem true _ _).1 (List.getElem_mem hk : (varsA a)[k] ∈ varsA a)
  have := List.all_eq_true.1 (check_parts h).2.2.1 t ht
  rw [← e]
  exact termB_ne this termB_emp
theorem vars_dist (a : AtomD) : (varsA a).Pairwise (fun x y => x ≠ y) := names_once4 _ _
theorem rest_mem {vs : List ByteArray} (hd : vs.Pairwise (fun x y => x ≠ y)) (k : Nat) (hk : k < vs.length) (s : ByteArray) : s ∈ vs.take k ++ vs.drop (k + 1) ↔ s ∈ vs ∧ s ≠ vs[k] := by
  rw [List.mem_append]
  constructor
  · rintro (h | h)
    · refine ⟨List.mem_of_mem_take h, ?_⟩
      obtain ⟨j, hj, rfl⟩ := List.getElem_of_mem h
      rw [List.getElem_take]
      rw [List.length_take] at hj
      exact List.pairwise_iff_getElem.1 hd j k (by omega) hk (by omega)
    · refine ⟨List.mem_of_mem_drop h, ?_⟩
      obtain ⟨j, hj, rfl⟩ := List.getElem_of_mem h
      rw [List.getElem_drop]
      rw [List.length_drop] at hj
      exact (List.pairwise_iff_getElem.1 hd k (k + 1 + j) hk (by omega) (by omega)).symm
  · rintro ⟨h, hne⟩
    obtain ⟨j, hj, rfl⟩ := List.getElem_of_mem h
    by_cases e : j < k
    · exact .inl (List.mem_take_iff_getElem.2 ⟨j, by omega, rfl⟩)
    · have : j ≠ k := fun e2 => hne (by subst e2; rfl)
      exact .inr (List.mem_drop_iff_getElem.2 ⟨j - (k + 1), by omega, by congr 1; omega⟩)
end Go.Proofs.YtiokjjiakcbmhaaDoor
namespace Go.Proofs.YtiokjjiakcbmhaaDoor
open Go.RowKit

def eqBs : List BindD → List BindD → Bool
  | [], [] => true
  | a :: l, b :: m => eqB a b && eqBs l m
  | _, _ => false
theorem eqB_iff {a b : BindD} (h : eqB a b = true) : a = b := by
  unfold eqB at h
  rw [Bool.and_eq_true] at h
  exact BindD.ext' ((ba_eq _ _).1 h.1) ((eqT_iff _ _).1 h.2)
theorem eqBs_iff : ∀ {l m : List BindD}, eqBs l m = true → l = m
  | [], [], _ => rfl
  | a :: l, b :: m, h => by
    unfold eqBs at h
    rw [Bool.and_eq_true] at h
    rw [eqB_iff h.1, eqBs_iff h.2]
  | [], _ :: _, h => by simp [eqBs] at h
  | _ :: _, [], h => by simp [eqBs] at h
def cT (s : UInt8) : TermD := ⟨false, ⟨#[s]⟩⟩
def vT (s : UInt8) : TermD := ⟨true, ⟨#[s]⟩⟩
def bD (s : UInt8) (t : TermD) : BindD := ⟨⟨#[s]⟩, t⟩
def wantD : List BindD := [bD 88 (cT 98), bD 89 (cT 99), bD 90 (cT 99)]
theorem pair_eq {p : List BindD × Int} {l : List BindD} {n : Int} (h1 : eqBs p.1 l = true) (h2 : p.2 = n) : p = (l, n) := by
  obtain ⟨a, b⟩ := p
  have e1 : a = l := eqBs_iff h1
  have e2 : b = n := h2
  rw [e1, e2]
theorem ex1 : bindD twoD ⟨#[90]⟩ (cT 99) = (wantD, 0) := pair_eq (by decide +kernel) (by decide +kernel)
theorem ex2 : bindD twoD ⟨#[88]⟩ (cT 99) = ([], 5) := pair_eq (by decide +kernel) (by decide +kernel)
theorem ex3 : bindD twoD ⟨#[90]⟩ (vT 89) = ([], 2) := pair_eq (by decide +kernel) (by decide +kernel)
theorem ex4 : bindD twoD ⟨#[]⟩ (cT 99) = ([], 2) := pair_eq (by decide +kernel) (by decide +kernel)
theorem ex5 : bindD [bD 88 (vT 88)] ⟨#[89]⟩ (cT 99) = ([], 15) := pair_eq (by decide +kernel) (by decide +kernel)
theorem ex6 : compD [bD 88 (vT 89)] [bD 89 (vT 88)] = ([bD 89 (vT 88)], 0) := pair_eq (by decide +kernel) (by decide +kernel)
theorem ex7 : compD twoD [bD 90 (cT 99)] = (wantD, 0) := pair_eq (by decide +kernel) (by decide +kernel)
theorem ex8 : getR twoD ⟨#[89]⟩ = (vT 90, true) := getR_some (by rfl)
theorem ex9 : getR twoD ⟨#[90]⟩ = (zeroT, false) := getR_none (by rfl)
theorem ex10 : subT twoD (cT 88) = cT 88 := rfl
theorem ex11 : restD twoD [⟨#[89]⟩, ⟨#[81]⟩] = twoD.drop 1 := eqBs_iff (by decide +kernel)
theorem ex12 : errB (twoD ++ twoD) = 15 := by decide +kernel

theorem step_freshes {ops : Array Oper} {o : Oper} {a : Act} {W : World} {K : Act → World → Prop} {Q : Exit → Act → World → Prop} {E : Prop} (s x : Operand) (t : TypeId) (ht : Tryd.prog.underlying t = some (.slice 43))
    (ho : o.op = .call { callee := .builtin .append, args := #[s, x], argTypes := #[t, t] }) {A : Option Addr} {i n cm : Nat} {ad : Addr} {pre m : List BindD} (hs : a.eval s = .slice A i i) (hx : a.eval x = .slice (some ad) n cm)
    (hS : SliceAt encB 3 W A i pre) (hl : pre.length = i) (hM : SliceAt encB 3 W (some ad) cm m) (hn : m.length = n) (hn0 : 0 < n) (hi : i + n ≤ 2000000) (hw : Region.wanted o (yielded ops a.tmps) = true)
    (h : ∀ q' c' w' out', RowKit.Hid (out' = pre ++ m) → RowKit.Hid (OB W w' q' c' out') → K (a.put o.dst (.slice q' out'.length c')) w') : if Region.wanted o (yielded ops a.tmps) = true then Oper.wp Tryd.prog o a W K Q else E := by
  obtain ⟨i0, hi0, hz0, hz1, hz2⟩ := info_B
  rw [if_pos hw]
  have key := step_append_grows (P := Tryd.prog) (ops := ops) (o := { o with guard := none }) (a := a) (w := W) (K := K) (Q := Q) (E := False) rfl s x t ho 43 i0 _ 3 40 ht hi0 hz0 hz1 hz2 rfl (by decide) A i i (flatL encB pre) hs (fun e => ⟨hS.nil e, hS.nil e⟩) (by rw [flat_len EB, hl]) (fun b' e j u hu => by
    have hi0 : 0 < i := by
      cases pre with
      | nil => simp [flatL] at hu
      | cons y pre => simp at hl; omega
    obtain ⟨b0, o0, rfl⟩ := hS.lt b' e hi0
    subst e
    exact hS.items.load EB j u hu) ad n cm (flatL encB m) hx (by rw [flat_len EB, hn]) (hM.loadAny EB) (flat_cells EB m) (by omega) (by unfold maxLen; omega) (by omega) (fun v' w' hown hgrow => by
    have hP : OwnL encB 3 43 W w' v' (pre ++ m) := OwnL.of_fresh EB (by rw [flat_append]; exact hown) hgrow
    obtain ⟨q', c', rfl⟩ := hP.value
    exact h q' c' w' (pre ++ m) (Lib.hid rfl) (Lib.hid hP))
  rw [if_pos (by simp [Region.wanted])] at key
  exact key
end Go.Proofs.YtiokjjiakcbmhaaDoor
