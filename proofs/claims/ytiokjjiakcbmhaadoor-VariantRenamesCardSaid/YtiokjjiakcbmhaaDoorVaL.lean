/-
  The law VariantRenames: what it needs. Conditions: as each says.
-/
import Derived.Test.YtiokjjiakcbmhaaDoorVaH
import Derived.Test.YtiokjjiakcbmhaaDoorSbY4
namespace Go.Proofs.YtiokjjiakcbmhaaDoor
open Go.RowKit

theorem names_at {vs ns : List ByteArray} {i : Nat} (hi : i < vs.length) (hl : vs.length ≤ ns.length) : (namesB vs ns)[i]? = some ⟨vs[i], ⟨true, ns[i]⟩⟩ := by
  unfold namesB
  rw [List.getElem?_map, List.getElem?_eq_getElem (by rw [List.length_zip]; omega), List.getElem_zip]
  rfl
theorem namesB_len {vs ns : List ByteArray} (hl : vs.length ≤ ns.length) : (namesB vs ns).length = vs.length := by
  unfold namesB
  rw [List.length_map, List.length_zip]; omega
theorem names_next {vs ns : List ByteArray} {i : Nat} (hi : i < vs.length) (hl : vs.length ≤ ns.length) : (namesB vs ns).take (i + 1) = (namesB vs ns).take i ++ [⟨vs[i], ⟨true, ns[i]⟩⟩] := by
  rw [List.take_add_one, names_at hi hl]; rfl
theorem apart_next {ns : List ByteArray} {i : Nat} (hi : i < ns.length) (h : (ns.take i).Pairwise (fun x y => x ≠ y)) (hn : ∀ k (hk : k < ns.length), k < i → ns[k] ≠ ns[i]) : (ns.take (i + 1)).Pairwise (fun x y => x ≠ y) := by
  rw [List.take_add_one, List.getElem?_eq_getElem hi, List.pairwise_append]
  refine ⟨h, by simp, fun x hx y hy => ?_⟩
  obtain rfl : y = ns[i] := by simpa using hy
  obtain ⟨k, hk, rfl⟩ := List.getElem_of_mem hx
  rw [List.length_take] at hk
  rw [List.getElem_take]
  exact hn k (by omega) (by omega)
theorem subT_size {l : List BindD} {t : TermD} {m : Nat} (hl : ∀ b ∈ l, b.t.name.size ≤ m) (ht : t.name.size ≤ m) : (subT l t).name.size ≤ m := by
  unfold subT
  split
  · cases e : getB l t.name with
    | none => exact ht
    | some u => exact hl _ (getB_mem e)
  · exact ht
theorem applyA_size {l : List BindD} {a : AtomD} {m : Nat} (hl : ∀ b ∈ l, b.t.name.size ≤ m) (ha : ∀ t ∈ argsD a, t.name.size ≤ m) : ∀ t ∈ argsD (applyA l a), t.name.size ≤ m := by
  have key : ∀ (p : Prop) [Decidable p] (t : TermD), t.name.size ≤ m → (if p then subT l t else t).name.size ≤ m := fun p _ t h => by
    split
    · exact subT_size hl h
    · exact h
  have a0 := ha a.t0 (by simp [argsD])
  have a1 := ha a.t1 (by simp [argsD])
  have a2 := ha a.t2 (by simp [argsD])
  have a3 := ha a.t3 (by simp [argsD])
  intro t ht
  simp only [argsD, applyA, List.mem_cons, List.mem_nil_iff, or_false] at ht
  rcases ht with rfl | rfl | rfl | rfl
  · exact key _ _ a0
  · exact key _ _ a1
  · exact key _ _ a2
  · exact key _ _ a3
theorem names_size {vs ns : List ByteArray} {m : Nat} (h : ∀ x ∈ ns, x.size ≤ m) : ∀ b ∈ namesB vs ns, b.t.name.size ≤ m := by
  intro b hb
  unfold namesB at hb
  obtain ⟨p, hp, rfl⟩ := List.mem_map.1 hb
  exact h _ (List.of_mem_zip hp).2
/-- the first binding with the second one's term -/
def sameTwo : List BindD → List BindD
  | b0 :: b1 :: r => ⟨b0.v, b1.t⟩ :: b1 :: r
  | l => l
theorem sameTwo_len : ∀ l : List BindD, (sameTwo l).length = l.length
  | [] => rfl
  | [_] => rfl
  | _ :: _ :: _ => rfl
theorem sameTwo_size {l : List BindD} {m : Nat} (h : ∀ b ∈ l, b.t.name.size ≤ m) : ∀ b ∈ sameTwo l, b.t.name.size ≤ m := by
  match l with
  | [] => exact h
  | [x] => exact h
  | b0 :: b1 :: r =>
    intro b hb
    rcases List.mem_cons.1 hb with rfl | hb
    · exact h b1 (by simp)
    · exact h b (List.mem_cons_of_mem _ hb)
theorem two_same {vs ns : List ByteArray} (hn : vs.Pairwise (fun x y => x ≠ y)) (h2 : 2 ≤ vs.length) (hl : vs.length ≤ ns.length) : ∃ x ∈ vs, ∃ y ∈ vs, x ≠ y ∧ subT (sameTwo (namesB vs ns)) ⟨true, x⟩ = subT (sameTwo (namesB vs ns)) ⟨true, y⟩ := by
  match vs, ns, h2, hl with
  | x :: y :: vs, n0 :: n1 :: ns, _, _ =>
    have hxy : x ≠ y := (List.pairwise_cons.1 hn).1 y (by simp)
    refine ⟨x, by simp, y, by simp, hxy, ?_⟩
    show ((if x = x then some (⟨true, n1⟩ : TermD) else _).getD _) = ((if x = y then some (⟨true, n1⟩ : TermD) else (if y = y then some (⟨true, n1⟩ : TermD) else _)).getD _)
    rw [if_pos rfl, if_neg hxy, if_pos rfl]; rfl
  | [], _, h2, _ => exact absurd h2 (by simp)
  | [_], _, h2, _ => exact absurd h2 (by simp)
  | _ :: _ :: _, [], _, hl => exact absurd hl (by simp)
  | _ :: _ :: _, [_], _, hl => exact absurd hl (by simp)
/-- with its variables' names apart: the same form, the same text; with two of them one: another form -/
theorem ren_same {a : AtomD} {ns : List ByteArray} (hl : (varsA a).length ≤ ns.length) (hn : (ns.take (varsA a).length).Pairwise (fun x y => x ≠ y)) : canonD (applyA (namesB (varsA a) ns) a) = canonD a := canon_names hl hn
theorem ren_two {a : AtomD} {ns : List ByteArray} (h2 : 2 ≤ (varsA a).length) (hl : (varsA a).length ≤ ns.length) : eqA (canonD a) (canonD (applyA (sameTwo (namesB (varsA a) ns)) a)) = false := by
  obtain ⟨x, hx, y, hy, hne, e⟩ := two_same (names_once true _) h2 hl
  exact canon_two hx hy hne e
/-- the cells of the first two bindings; the first one's term stored -/
theorem flat_two (b0 b1 : BindD) (r : List BindD) : flatL encB (⟨b0.v, b1.t⟩ :: b1 :: r) = ((flatL encB (b0 :: b1 :: r)).set 1 (.bool b1.t.v)).set 2 (.string b1.t.name) := rfl
theorem own_two {w W : World} {g c : Nat} {b0 b1 : BindD} {r : List BindD} (h : OB w W (some ⟨g, 0, none⟩) c (b0 :: b1 :: r)) : OB w ((W.setCell ⟨g, 1, none⟩ (.bool b1.t.v)).setCell ⟨g, 2, none⟩ (.string b1.t.name)) (some ⟨g, 0, none⟩) c (⟨b0.v, b1.t⟩ :: b1 :: r) := by
  have s1 := h.row.stored 1 (.bool b1.t.v)
  have s2 := s1.1.stored 2 (.string b1.t.name)
  have hg := h.new g (by simp [Value.ownBlock])
  refine ⟨by rw [flat_two]; exact s2.1, h.bel.trans ?_, h.new⟩
  exact (Fr.below (F := [g]) ((Fr.setCell W (by simp) _).trans (Fr.setCell _ (by simp) _)) (fun k hk => by have := List.mem_singleton.1 hk; omega) h.bel.size)
end Go.Proofs.YtiokjjiakcbmhaaDoor
