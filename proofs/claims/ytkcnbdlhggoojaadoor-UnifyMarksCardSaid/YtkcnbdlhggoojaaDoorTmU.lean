/-
  The statements' own helper A: an atom of names of one byte each. Conditions: as it says.
-/
import Derived.Test.YtkcnbdlhggoojaaDoorTmH
import Derived.Test.YtkcnbdlhggoojaaDoorTmMa
namespace Go.Proofs.YtkcnbdlhggoojaaDoor
open Go.RowKit

def byteD (c : UInt8) : TermD := ⟨uppB c, ⟨#[c]⟩⟩
/-- the mark of a variable is set -/
def setV (a : AtomD) (i : Nat) (v : Bool) : AtomD := match i with
  | 0 => ⟨a.says, a.pred, a.n, ⟨v, a.t0.name⟩, a.t1, a.t2, a.t3⟩
  | 1 => ⟨a.says, a.pred, a.n, a.t0, ⟨v, a.t1.name⟩, a.t2, a.t3⟩
  | 2 => ⟨a.says, a.pred, a.n, a.t0, a.t1, ⟨v, a.t2.name⟩, a.t3⟩
  | _ => ⟨a.says, a.pred, a.n, a.t0, a.t1, a.t2, ⟨v, a.t3.name⟩⟩
theorem setV_arg (a : AtomD) (i : Nat) (x y : Bool) (s : ByteArray) : setV (setArg a i ⟨x, s⟩) i y = setArg a i ⟨y, s⟩ := by
  match i with
  | 0 => rfl
  | 1 => rfl
  | 2 => rfl
  | _ + 3 => rfl
theorem store_v {w : World} {g : Nat} {a0 : AtomD} (h : AtomAt w g a0) (i : Nat) (hi : i < 4) (v : Bool) : ∃ w3, (storeVar 4 ⟨g, 3 + i * 2, none⟩ (.bool v)).run Tryd.prog w = .ok () w3 ∧ AtomAt w3 g (setV a0 i v) ∧ Below g w w3 ∧ ∀ k, k ≠ g → w3.heap[k]? = w.heap[k]? := by
  have hst := run_storeCells_at Tryd.prog g (3 + i * 2) 30 [.bool v] 0 _ w h (by simp; omega) (by intro u hu; simp at hu; subst hu; rfl)
  have hi' : (Tryd.prog.info? 4).map (·.size) = some 1 := by kernel_rfl
  cases hq : Tryd.prog.info? 4 with
  | none => rw [hq] at hi'; cases hi'
  | some i0 =>
    have hz1 : i0.size = 1 := by rw [hq] at hi'; simpa using hi'
    have e : (storeVar 4 ⟨g, 3 + i * 2, none⟩ (.bool v)).run Tryd.prog w = (storeCells ⟨g, 3 + i * 2, none⟩ [.bool v] 0).run Tryd.prog w := by
      simp [storeVar, sizeOf, typeInfo, hq, Value.cells, hz1]
    refine ⟨_, e.trans hst, ?_, ⟨rfl, rfl, rfl, by simp [World.setRow], fun k hk => setRow_other w g k _ (by omega)⟩, fun k hk => setRow_other w g k _ hk⟩
    unfold AtomAt
    rw [setRow_heap w g _ _ 30 _ h]
    obtain rfl | rfl | rfl | rfl : i = 0 ∨ i = 1 ∨ i = 2 ∨ i = 3 := by omega
    all_goals rfl
theorem wpList_store_v {ops : Array Oper} {rest : List Oper} {o : Oper} {a : Act} {w : World} {Q : Exit → Act → World → Prop} (hgd : o.guard = none) (x y : Operand) (ho : o.op = .store 4 x y) (g i : Nat) (v : Bool)
    (hx : a.eval x = .pointer (some ⟨g, 3 + i * 2, none⟩)) (hy : a.eval y = .bool v) {a0 : AtomD} (hg : AtomAt w g a0) (hi : i < 4)
    (h : ∀ w', AtomAt w' g (setV a0 i v) → Below g w w' → (∀ k, k ≠ g → w'.heap[k]? = w.heap[k]?) → wpList Tryd.prog ops Q rest (a.put o.dst undef) w') : wpList Tryd.prog ops Q (o :: rest) a w := by
  obtain ⟨w3, hst, h1, h2, h3⟩ := store_v hg i hi v
  refine wpList_plain hgd fun _ hK => ?_
  unfold Oper.wp execOp
  simp only [ho, hx, hy, Instr.storeAt, Instr.sureAddr, Sem.run_bind, Sem.run_pure, Result.andThen_ok, hst]
  exact hK _ _ (h w3 h1 h2 h3)
end Go.Proofs.YtkcnbdlhggoojaaDoor
