/-
  The making of atoms out of lists: the project's and the reference's; a list copied. Conditions: as each says. The reference's making of an atom. Conditions: as it says. Whether an atom is ground. Conditions: as each says.
-/
import Derived.Test.YtamghlneoglfnaaTgA
import Derived.Test.YtamghlneoglfnaaOwA
import Derived.Laws.AppendOwnNone
namespace Go.Proofs.Ytamghlneoglfnaa
open Go.RowKit

theorem termCells_get : ∀ (l : List TermD) (j : Nat) (h : j < l.length), (termCells l)[j * 2]? = some (.bool l[j].v) ∧ (termCells l)[j * 2 + 1]? = some (.string l[j].name)
  | [], j, h => by simp at h
  | x :: l, 0, _ => ⟨rfl, rfl⟩
  | x :: l, j + 1, h => by
    have := termCells_get l j (by simpa using h)
    rw [show (j + 1) * 2 = j * 2 + 2 by omega, show j * 2 + 2 + 1 = (j * 2 + 1) + 2 by omega]
    simpa [termCells] using this
theorem TermsAt.of_row {w : World} {base ca n : Nat} {A : Option Addr} {l : List TermD} (h : w.ownsRow base 24 2 (.slice A n ca) n (termCells l)) : TermsAt w A l := fun j hj => by
  have hn : n = l.length := by have := h.1; rw [termCells_len] at this; omega
  obtain ⟨g, cap, e, ho, hlt, _, _⟩ := row_value h (by omega)
  injection e with e1 e2 e3
  subst e1
  refine ⟨g, 0, rfl, hlt, ?_, ?_⟩
  · rw [Nat.zero_add]; exact row_cell h ho (termCells_get l j hj).1
  · rw [Nat.zero_add]; exact row_cell h ho (termCells_get l j hj).2
theorem ret_slice {A : Option Addr} {a b c : Nat} (h : a = b) : Ending.returned (.slice A a c) = .returned (.slice A b c) := by rw [h]
theorem info_parts2 : ∃ i, Try.prog.info? 24 = some i ∧ i.zero = some (.agg #[.bool false, .string ⟨#[]⟩]) ∧ i.size = 2 ∧ i.bytes = 24 := by
  have h : (Try.prog.info? 24).map (fun i => (i.zero, i.size, i.bytes)) = some (some (.agg #[.bool false, .string ⟨#[]⟩]), 2, 24) := by kernel_rfl
  cases hq : Try.prog.info? 24 with
  | none => rw [hq] at h; cases h
  | some i =>
    rw [hq] at h
    injection h with h
    injection h with h1 h2
    injection h2 with h2 h3
    exact ⟨i, rfl, h1, h2, h3⟩

def zeroA : AtomD := ⟨⟨#[]⟩, ⟨#[]⟩, 0, zeroT, zeroT, zeroT, zeroT⟩
def madeD (s p : ByteArray) (l : List TermD) : AtomD × Int :=
  if 4 < l.length then (zeroA, 4) else if checkD (storedD s p l) = 0 then (storedD s p l, 0) else (zeroA, checkD (storedD s p l))
theorem made_long {s p : ByteArray} {l : List TermD} (h : 4 < l.length) : madeD s p l = (zeroA, 4) := by unfold madeD; rw [if_pos h]
theorem made_ok {s p : ByteArray} {l : List TermD} (h : ¬ 4 < l.length) (h2 : checkD (storedD s p l) = 0) : madeD s p l = (storedD s p l, 0) := by unfold madeD; rw [if_neg h, if_pos h2]
theorem made_bad {s p : ByteArray} {l : List TermD} (h : ¬ 4 < l.length) (h2 : checkD (storedD s p l) ≠ 0) : madeD s p l = (zeroA, checkD (storedD s p l)) := by unfold madeD; rw [if_neg h, if_neg h2]
theorem storedD_ok {s p : ByteArray} {l : List TermD} (hs : s.size ≤ 9223372036854775807) (hp : p.size ≤ 9223372036854775807) (hl : l.length ≤ 4) (h : ∀ t ∈ l, t.name.size ≤ 9223372036854775807) : AtomOk (storedD s p l) := by
  have hg : ∀ j, (l.getD j zeroT).name.size ≤ 9223372036854775807 := fun j => by
    rw [List.getD_eq_getElem?_getD]
    cases hj : l[j]? with
    | none => show zeroT.name.size ≤ _; decide
    | some t => exact h t (List.mem_of_getElem? hj)
  exact ⟨hs, hp, by unfold storedD; simp only; omega, hg 0, hg 1, hg 2, hg 3⟩
theorem storedD_len {s p : ByteArray} {l : List TermD} : (storedD s p l).n = l.length := rfl

end Go.Proofs.Ytamghlneoglfnaa
namespace Go.Proofs.Ytamghlneoglfnaa
open Go.RowKit

def setArg (a : AtomD) (i : Nat) (t : TermD) : AtomD := match i with
  | 0 => ⟨a.says, a.pred, a.n, t, a.t1, a.t2, a.t3⟩
  | 1 => ⟨a.says, a.pred, a.n, a.t0, t, a.t2, a.t3⟩
  | 2 => ⟨a.says, a.pred, a.n, a.t0, a.t1, t, a.t3⟩
  | _ => ⟨a.says, a.pred, a.n, a.t0, a.t1, a.t2, t⟩
theorem store_arg {w : World} {g : Nat} {a0 : AtomD} (h : AtomAt w g a0) (i : Nat) (hi : i < 4) (t : TermD) : ∃ w3, (storeVar 24 ⟨g, 3 + i * 2, none⟩ (.agg #[.bool t.v, .string t.name])).run Try.prog w = .ok () w3 ∧ AtomAt w3 g (setArg a0 i t) ∧ Below g w w3 ∧ ∀ k, k ≠ g → w3.heap[k]? = w.heap[k]? := by
  obtain ⟨i0, hq, _, hz1, _⟩ := info_parts2
  have hst := run_storeCells_at Try.prog g (3 + i * 2) 27 [.bool t.v, .string t.name] 0 _ w h (by simp; omega) (termCells_one [t])
  have e : (storeVar 24 ⟨g, 3 + i * 2, none⟩ (.agg #[.bool t.v, .string t.name])).run Try.prog w = (storeCells ⟨g, 3 + i * 2, none⟩ [.bool t.v, .string t.name] 0).run Try.prog w := by
    simp [storeVar, sizeOf, typeInfo, hq, Value.cells, hz1]
  refine ⟨_, e.trans hst, ?_, ⟨rfl, rfl, rfl, by simp [World.setRow], fun k hk => setRow_other w g k _ (by omega)⟩, fun k hk => setRow_other w g k _ hk⟩
  unfold AtomAt
  rw [setRow_heap w g _ _ 27 _ h]
  obtain rfl | rfl | rfl | rfl : i = 0 ∨ i = 1 ∨ i = 2 ∨ i = 3 := by omega
  all_goals rfl
theorem wpList_store_arg {ops : Array Oper} {rest : List Oper} {o : Oper} {a : Act} {w : World} {Q : Exit → Act → World → Prop} (hgd : o.guard = none) (x y : Operand) (ho : o.op = .store 24 x y) (g i : Nat) (t : TermD)
    (hx : a.eval x = .pointer (some ⟨g, 3 + i * 2, none⟩)) (hy : a.eval y = .agg #[.bool t.v, .string t.name]) {a0 : AtomD} (hg : AtomAt w g a0) (hi : i < 4)
    (h : ∀ w', AtomAt w' g (setArg a0 i t) → Below g w w' → (∀ k, k ≠ g → w'.heap[k]? = w.heap[k]?) → wpList Try.prog ops Q rest (a.put o.dst undef) w') : wpList Try.prog ops Q (o :: rest) a w := by
  obtain ⟨w3, hst, h1, h2, h3⟩ := store_arg hg i hi t
  refine wpList_plain hgd fun _ hK => ?_
  unfold Oper.wp execOp
  simp only [ho, hx, hy, Instr.storeAt, Instr.sureAddr, Sem.run_bind, Sem.run_pure, Result.andThen_ok, hst]
  exact hK _ _ (h w3 h1 h2 h3)
def partD (s p : ByteArray) (l : List TermD) (k : Nat) : AtomD := ⟨s, p, l.length, (l.take k).getD 0 zeroT, (l.take k).getD 1 zeroT, (l.take k).getD 2 zeroT, (l.take k).getD 3 zeroT⟩
theorem part_all (s p : ByteArray) (l : List TermD) : partD s p l l.length = storedD s p l := by unfold partD storedD; rw [List.take_length]
theorem part_set (s p : ByteArray) (l : List TermD) (k : Nat) (hk : k < l.length) (hl : l.length ≤ 4) : setArg (partD s p l k) k l[k] = partD s p l (k + 1) := by
  match l, hl with
  | [x0], _ => obtain rfl : k = 0 := by simp at hk; omega
               rfl
  | [x0, x1], _ =>
    obtain rfl | rfl : k = 0 ∨ k = 1 := by simp at hk; omega
    all_goals rfl
  | [x0, x1, x2], _ =>
    obtain rfl | rfl | rfl : k = 0 ∨ k = 1 ∨ k = 2 := by simp at hk; omega
    all_goals rfl
  | [x0, x1, x2, x3], _ =>
    obtain rfl | rfl | rfl | rfl : k = 0 ∨ k = 1 ∨ k = 2 ∨ k = 3 := by simp at hk; omega
    all_goals rfl
  | [], _ => simp at hk
  | _ :: _ :: _ :: _ :: _ :: _, h5 => simp at h5

end Go.Proofs.Ytamghlneoglfnaa
namespace Go.Proofs.Ytamghlneoglfnaa
open Go.RowKit

theorem ground_eq (a : AtomD) : groundD a = !(((argsD a).take (cntI a.n)).any (fun t => t.v)) := by
  unfold groundD cntD
  rw [List.not_any_eq_all_not]
end Go.Proofs.Ytamghlneoglfnaa
