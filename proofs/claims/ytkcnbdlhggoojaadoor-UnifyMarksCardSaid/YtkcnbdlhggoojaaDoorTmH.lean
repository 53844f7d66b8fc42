/-
  The reference's making of an atom. Conditions: as it says.
-/
import Derived.Test.YtkcnbdlhggoojaaDoorTmF
namespace Go.Proofs.YtkcnbdlhggoojaaDoor
open Go.RowKit

def setArg (a : AtomD) (i : Nat) (t : TermD) : AtomD := match i with
  | 0 => ⟨a.says, a.pred, a.n, t, a.t1, a.t2, a.t3⟩
  | 1 => ⟨a.says, a.pred, a.n, a.t0, t, a.t2, a.t3⟩
  | 2 => ⟨a.says, a.pred, a.n, a.t0, a.t1, t, a.t3⟩
  | _ => ⟨a.says, a.pred, a.n, a.t0, a.t1, a.t2, t⟩
theorem store_arg {w : World} {g : Nat} {a0 : AtomD} (h : AtomAt w g a0) (i : Nat) (hi : i < 4) (t : TermD) : ∃ w3, (storeVar 27 ⟨g, 3 + i * 2, none⟩ (.agg #[.bool t.v, .string t.name])).run Tryd.prog w = .ok () w3 ∧ AtomAt w3 g (setArg a0 i t) ∧ Below g w w3 ∧ ∀ k, k ≠ g → w3.heap[k]? = w.heap[k]? := by
  obtain ⟨i0, hq, _, hz1, _⟩ := info_parts2
  have hst := run_storeCells_at Tryd.prog g (3 + i * 2) 30 [.bool t.v, .string t.name] 0 _ w h (by simp; omega) (termCells_one [t])
  have e : (storeVar 27 ⟨g, 3 + i * 2, none⟩ (.agg #[.bool t.v, .string t.name])).run Tryd.prog w = (storeCells ⟨g, 3 + i * 2, none⟩ [.bool t.v, .string t.name] 0).run Tryd.prog w := by
    simp [storeVar, sizeOf, typeInfo, hq, Value.cells, hz1]
  refine ⟨_, e.trans hst, ?_, ⟨rfl, rfl, rfl, by simp [World.setRow], fun k hk => setRow_other w g k _ (by omega)⟩, fun k hk => setRow_other w g k _ hk⟩
  unfold AtomAt
  rw [setRow_heap w g _ _ 30 _ h]
  obtain rfl | rfl | rfl | rfl : i = 0 ∨ i = 1 ∨ i = 2 ∨ i = 3 := by omega
  all_goals rfl
theorem wpList_store_arg {ops : Array Oper} {rest : List Oper} {o : Oper} {a : Act} {w : World} {Q : Exit → Act → World → Prop} (hgd : o.guard = none) (x y : Operand) (ho : o.op = .store 27 x y) (g i : Nat) (t : TermD)
    (hx : a.eval x = .pointer (some ⟨g, 3 + i * 2, none⟩)) (hy : a.eval y = .agg #[.bool t.v, .string t.name]) {a0 : AtomD} (hg : AtomAt w g a0) (hi : i < 4)
    (h : ∀ w', AtomAt w' g (setArg a0 i t) → Below g w w' → (∀ k, k ≠ g → w'.heap[k]? = w.heap[k]?) → wpList Tryd.prog ops Q rest (a.put o.dst undef) w') : wpList Tryd.prog ops Q (o :: rest) a w := by
  obtain ⟨w3, hst, h1, h2, h3⟩ := store_arg hg i hi t
  refine wpList_plain hgd fun _ hK => ?_
  unfold Oper.wp execOp
  simp only [ho, hx, hy, Instr.storeAt, Instr.sureAddr, Sem.run_bind, Sem.run_pure, Result.andThen_ok, hst]
  exact hK _ _ (h w3 h1 h2 h3)
def partD (s p : ByteArray) (l : List TermD) (k : Nat) : AtomD := ⟨s, p, l.length, (l.take k).getD 0 zeroT, (l.take k).getD 1 zeroT, (l.take k).getD 2 zeroT, (l.take k).getD 3 zeroT⟩
theorem part_all (s p : ByteArray) (l : List TermD) : partD s p l l.length = storedD s p l := by unfold partD storedD; rw [List.take_length]
theorem part_set (s p : ByteArray) (l : List TermD) (k : Nat) (hk : k < l.length) (hl : l.length ≤ 4) : setArg (partD s p l k) k l[k] = partD s p l (k + 1) := by
  match l, hl with
  | [x0], _ => obtain rfl : k = 0 := by simp at hk; omega
               rfl
  | [x0, x1], _ =>
    obtain rfl | rfl : k = 0 ∨ k = 1 := by simp at hk; omega
    all_goals rfl
  | [x0, x1, x2], _ =>
    obtain rfl | rfl | rfl : k = 0 ∨ k = 1 ∨ k = 2 := by simp at hk; omega
    all_goals rfl
  | [x0, x1, x2, x3], _ =>
    obtain rfl | rfl | rfl | rfl : k = 0 ∨ k = 1 ∨ k = 2 ∨ k = 3 := by simp at hk; omega
    all_goals rfl
  | [], _ => simp at hk
  | _ :: _ :: _ :: _ :: _ :: _, h5 => simp at h5

end Go.Proofs.YtkcnbdlhggoojaaDoor
