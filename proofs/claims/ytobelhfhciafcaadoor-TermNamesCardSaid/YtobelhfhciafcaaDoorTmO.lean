/-
  The law TermMade for every input. Conditions: what came in lies as its parameters' types say; the library's variable holds some int.
-/
import Derived.Test.YtobelhfhciafcaaDoorTmM
import Derived.Test.YtobelhfhciafcaaDoorTmH
import Derived.Deep.RegionHeld
namespace Go.Proofs.YtobelhfhciafcaaDoor
open Go.RowKit

theorem check_stored (s p : ByteArray) (l : List TermD) (hl : l.length ≤ 4) : checkD (storedD s p l) = if (prinB s && prinB p) = true then (if l.all termB = true then 0 else 3) else 3 := by
  have ht : ∀ t : TermD, eqT t t = true := fun t => (eqT_iff t t).2 rfl
  unfold checkD
  by_cases h : (prinB s && prinB p) = true
  · rw [if_pos h]
    have h' : (prinB (storedD s p l).says && prinB (storedD s p l).pred) = true := h
    rw [if_pos h']
    match l, hl with
    | [], _ => simp [storedD, argsD, cntI_0, zerosB, ht]
    | [x0], _ => simp [storedD, argsD, cntI_1, zerosB, ht]
    | [x0, x1], _ => simp [storedD, argsD, cntI_2, zerosB, ht]
    | [x0, x1, x2], _ => simp [storedD, argsD, cntI_3, zerosB, ht]
    | [x0, x1, x2, x3], _ => simp [storedD, argsD, cntI_4, zerosB]
    | _ :: _ :: _ :: _ :: _ :: _, h5 => simp at h5
  · rw [if_neg h]
    have h' : ¬ (prinB (storedD s p l).says && prinB (storedD s p l).pred) = true := h
    rw [if_neg h']
theorem stored_zero {s p : ByteArray} {l : List TermD} (hl : l.length ≤ 4) (h : checkD (storedD s p l) = 0) : (prinB s && prinB p) = true ∧ l.all termB = true := by
  rw [check_stored s p l hl] at h
  split at h
  · rename_i h1
    split at h
    · rename_i h2
      exact ⟨h1, h2⟩
    · cases h
  · cases h
theorem zero_take {s p : ByteArray} {l : List TermD} (hl : l.length ≤ 4) (h : checkD (storedD s p l) = 0) (k : Nat) : checkD (storedD s p (l.take k)) = 0 := by
  obtain ⟨h1, h2⟩ := stored_zero hl h
  rw [check_stored s p _ (by rw [List.length_take]; omega), if_pos h1, if_pos]
  rw [List.all_eq_true] at h2 ⊢
  exact fun t ht => h2 t (List.mem_of_mem_take ht)
theorem args_stored (s p : ByteArray) (l : List TermD) (hl : l.length ≤ 4) (k : Nat) (hk : k < l.length) : (argsD (storedD s p l))[k]? = some l[k] := by
  match l, hl with
  | [x0], _ => obtain rfl : k = 0 := by simp at hk; omega
               rfl
  | [x0, x1], _ =>
    obtain rfl | rfl : k = 0 ∨ k = 1 := by simp at hk; omega
    all_goals rfl
  | [x0, x1, x2], _ =>
    obtain rfl | rfl | rfl : k = 0 ∨ k = 1 ∨ k = 2 := by simp at hk; omega
    all_goals rfl
  | [x0, x1, x2, x3], _ =>
    obtain rfl | rfl | rfl | rfl : k = 0 ∨ k = 1 ∨ k = 2 ∨ k = 3 := by simp at hk; omega
    all_goals rfl
  | [], _ => simp at hk
  | _ :: _ :: _ :: _ :: _ :: _, h5 => simp at h5
def setN (a : AtomD) (n : Int) : AtomD := ⟨a.says, a.pred, n, a.t0, a.t1, a.t2, a.t3⟩
theorem made_less (s p : ByteArray) (l : List TermD) (h0 : 0 < l.length) (hl : l.length ≤ 4) : setArg (setN (storedD s p l) ((l.length - 1 : Nat) : Int)) (l.length - 1) zeroT = storedD s p (l.take (l.length - 1)) := by
  match l, hl with
  | [x0], _ => rfl
  | [x0, x1], _ => rfl
  | [x0, x1, x2], _ => rfl
  | [x0, x1, x2, x3], _ => rfl
  | [], _ => simp at h0
  | _ :: _ :: _ :: _ :: _ :: _, h5 => simp at h5
theorem store_n {w : World} {g : Nat} {a0 : AtomD} (h : AtomAt w g a0) (n : Int) : ∃ w3, (storeVar 3 ⟨g, 2, none⟩ (.int .i64 n)).run Tryd.prog w = .ok () w3 ∧ AtomAt w3 g (setN a0 n) ∧ Below g w w3 ∧ ∀ k, k ≠ g → w3.heap[k]? = w.heap[k]? := by
  have hst := run_storeCells_at Tryd.prog g 2 27 [.int .i64 n] 0 _ w h (by simp) (by intro v hv; simp at hv; subst hv; rfl)
  have hi : (Tryd.prog.info? 3).map (·.size) = some 1 := by kernel_rfl
  cases hq : Tryd.prog.info? 3 with
  | none => rw [hq] at hi; cases hi
  | some i0 =>
    have hz1 : i0.size = 1 := by rw [hq] at hi; simpa using hi
    have e : (storeVar 3 ⟨g, 2, none⟩ (.int .i64 n)).run Tryd.prog w = (storeCells ⟨g, 2, none⟩ [.int .i64 n] 0).run Tryd.prog w := by
      simp [storeVar, sizeOf, typeInfo, hq, Value.cells, hz1]
    refine ⟨_, e.trans hst, ?_, ⟨rfl, rfl, rfl, by simp [World.setRow], fun k hk => setRow_other w g k _ (by omega)⟩, fun k hk => setRow_other w g k _ hk⟩
    unfold AtomAt
    rw [setRow_heap w g _ _ 27 _ h]
    rfl
theorem wpList_store_n {ops : Array Oper} {rest : List Oper} {o : Oper} {a : Act} {w : World} {Q : Exit → Act → World → Prop} (hgd : o.guard = none) (x y : Operand) (ho : o.op = .store 3 x y) (g : Nat) (n : Int)
    (hx : a.eval x = .pointer (some ⟨g, 2, none⟩)) (hy : a.eval y = .int .i64 n) {a0 : AtomD} (hg : AtomAt w g a0)
    (h : ∀ w', AtomAt w' g (setN a0 n) → Below g w w' → (∀ k, k ≠ g → w'.heap[k]? = w.heap[k]?) → wpList Tryd.prog ops Q rest (a.put o.dst undef) w') : wpList Tryd.prog ops Q (o :: rest) a w := by
  obtain ⟨w3, hst, h1, h2, h3⟩ := store_n hg n
  refine wpList_plain hgd fun _ hK => ?_
  unfold Oper.wp execOp
  simp only [ho, hx, hy, Instr.storeAt, Instr.sureAddr, Sem.run_bind, Sem.run_pure, Result.andThen_ok, hst]
  exact hK _ _ (h w3 h1 h2 h3)
end Go.Proofs.YtobelhfhciafcaaDoor
