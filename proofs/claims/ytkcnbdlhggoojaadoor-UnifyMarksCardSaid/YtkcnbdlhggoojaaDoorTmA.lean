/-
  Terms and atoms as values: what they are made of, and how they are compared. No condition.
-/
import Derived.Test.YtkcnbdlhggoojaaDoorSpE
namespace Go.Proofs.YtkcnbdlhggoojaaDoor
open Go.RowKit

structure TermD where
  v : Bool
  name : ByteArray
structure AtomD where
  says : ByteArray
  pred : ByteArray
  n : Int
  t0 : TermD
  t1 : TermD
  t2 : TermD
  t3 : TermD
def zeroT : TermD := ⟨false, ⟨#[]⟩⟩
def argsD (a : AtomD) : List TermD := [a.t0, a.t1, a.t2, a.t3]
theorem TermD.ext' {a b : TermD} (h1 : a.v = b.v) (h2 : a.name = b.name) : a = b := by
  cases a; cases b; cases h1; cases h2; rfl
theorem AtomD.ext' {a b : AtomD} (h1 : a.says = b.says) (h2 : a.pred = b.pred) (h3 : a.n = b.n) (h4 : argsD a = argsD b) : a = b := by
  cases a; cases b; cases h1; cases h2; cases h3
  simp only [argsD, List.cons.injEq, and_true] at h4
  obtain ⟨rfl, rfl, rfl, rfl⟩ := h4
  rfl
def eqT (a b : TermD) : Bool := a.v == b.v && a.name == b.name
def eqA (a b : AtomD) : Bool := a.says == b.says && (a.pred == b.pred && (a.n == b.n && (eqT a.t0 b.t0 && (eqT a.t1 b.t1 && (eqT a.t2 b.t2 && eqT a.t3 b.t3)))))
theorem ba_eq (a b : ByteArray) : (a == b) = true ↔ a = b := by
  constructor
  · intro h
    cases a; cases b
    rename_i x y
    have h' : (x == y) = true := h
    rw [eq_of_beq h']
  · rintro rfl
    cases a
    rename_i x
    show (x == x) = true
    simp
theorem eqT_iff (a b : TermD) : eqT a b = true ↔ a = b := by
  unfold eqT
  rw [Bool.and_eq_true, ba_eq, beq_iff_eq]
  exact ⟨fun ⟨h, k⟩ => TermD.ext' h k, fun h => by subst h; exact ⟨rfl, rfl⟩⟩
theorem eqA_iff (a b : AtomD) : eqA a b = true ↔ a = b := by
  unfold eqA
  simp only [Bool.and_eq_true, ba_eq, eqT_iff, beq_iff_eq]
  exact ⟨fun ⟨h1, h2, h3, h4, h5, h6, h7⟩ => AtomD.ext' h1 h2 h3 (by simp [argsD, h4, h5, h6, h7]), fun h => by subst h; exact ⟨rfl, rfl, rfl, rfl, rfl, rfl, rfl⟩⟩

section
variable (w : World)
theorem eqin_bool (d : Nat) (x y : Bool) : (Op.equalIn (d + 1) 4 (.bool x) (.bool y)).run Tryd.prog w = .ok (x == y) w := by
  simp [Op.equalIn, run_underlying Tryd.underlying4]
theorem eqin_int (d : Nat) (x y : Int) : (Op.equalIn (d + 1) 3 (.int .i64 x) (.int .i64 y)).run Tryd.prog w = .ok (x == y) w := by
  simp [Op.equalIn, run_underlying Tryd.underlying3]
theorem eqin_str (d : Nat) (x y : ByteArray) : (Op.equalIn (d + 1) 9 (.string x) (.string y)).run Tryd.prog w = .ok (x == y) w := by
  simp [Op.equalIn, run_underlying Tryd.underlying9]
theorem eqin_term (d : Nat) (a b : TermD) : (Op.equalIn (d + 2) 27 (.agg #[.bool a.v, .string a.name]) (.agg #[.bool b.v, .string b.name])).run Tryd.prog w = .ok (eqT a b) w := by
  have hst : Tryd.prog.stoodInHeld 27 = false := by kernel_rfl
  have p0 : ∀ (a b : Value) (w : World), (part 4 #[a, b] 0).run Tryd.prog w = .ok a w := fun _ _ _ => by kernel_rfl
  have p1 : ∀ (a b : Value) (w : World), (part 9 #[a, b] 1).run Tryd.prog w = .ok b w := fun _ _ _ => by kernel_rfl
  have h0 := fun w => eqin_bool w d a.v b.v
  have h1 := fun w => eqin_str w d a.name b.name
  unfold eqT
  rw [Op.equalIn]
  cases e0 : a.v == b.v <;> cases e1 : a.name == b.name <;> rw [e0] at h0 <;> rw [e1] at h1 <;>
    simp [run_underlying Tryd.underlying27, hst, p0, p1, h0, h1]
set_option maxHeartbeats 4000000 in
theorem eqin_terms (d : Nat) (a0 a1 a2 a3 b0 b1 b2 b3 : TermD) : (Op.equalIn (d + 3) 28 (.agg #[.bool a0.v, .string a0.name, .bool a1.v, .string a1.name, .bool a2.v, .string a2.name, .bool a3.v, .string a3.name])
    (.agg #[.bool b0.v, .string b0.name, .bool b1.v, .string b1.name, .bool b2.v, .string b2.name, .bool b3.v, .string b3.name])).run Tryd.prog w = .ok (eqT a0 b0 && (eqT a1 b1 && (eqT a2 b2 && eqT a3 b3))) w := by
  have p0 : ∀ (c0 c1 c2 c3 c4 c5 c6 c7 : Value) (w : World), (part 27 #[c0, c1, c2, c3, c4, c5, c6, c7] 0).run Tryd.prog w = .ok (.agg #[c0, c1]) w := fun _ _ _ _ _ _ _ _ _ => by kernel_rfl
  have p1 : ∀ (c0 c1 c2 c3 c4 c5 c6 c7 : Value) (w : World), (part 27 #[c0, c1, c2, c3, c4, c5, c6, c7] 2).run Tryd.prog w = .ok (.agg #[c2, c3]) w := fun _ _ _ _ _ _ _ _ _ => by kernel_rfl
  have p2 : ∀ (c0 c1 c2 c3 c4 c5 c6 c7 : Value) (w : World), (part 27 #[c0, c1, c2, c3, c4, c5, c6, c7] 4).run Tryd.prog w = .ok (.agg #[c4, c5]) w := fun _ _ _ _ _ _ _ _ _ => by kernel_rfl
  have p3 : ∀ (c0 c1 c2 c3 c4 c5 c6 c7 : Value) (w : World), (part 27 #[c0, c1, c2, c3, c4, c5, c6, c7] 6).run Tryd.prog w = .ok (.agg #[c6, c7]) w := fun _ _ _ _ _ _ _ _ _ => by kernel_rfl
  have hsz : ∀ w, (sizeOf 27).run Tryd.prog w = .ok 2 w := fun w => by kernel_rfl
  have h0 := fun w => eqin_term w d a0 b0
  have h1 := fun w => eqin_term w d a1 b1
  have h2 := fun w => eqin_term w d a2 b2
  have h3 := fun w => eqin_term w d a3 b3
  rw [Op.equalIn]
  cases e0 : eqT a0 b0 <;> cases e1 : eqT a1 b1 <;> cases e2 : eqT a2 b2 <;> cases e3 : eqT a3 b3 <;> rw [e0] at h0 <;> rw [e1] at h1 <;> rw [e2] at h2 <;> rw [e3] at h3 <;>
    simp [run_underlying Tryd.underlying28, hsz, p0, p1, p2, p3, h0, h1, h2, h3, Std.Legacy.Range.forIn_eq_forIn_range', List.range']
set_option maxHeartbeats 4000000 in
theorem eqin_atom (d : Nat) (a b : AtomD) : (Op.equalIn (d + 4) 30 (.agg #[.string a.says, .string a.pred, .int .i64 a.n, .bool a.t0.v, .string a.t0.name, .bool a.t1.v, .string a.t1.name, .bool a.t2.v, .string a.t2.name, .bool a.t3.v, .string a.t3.name])
    (.agg #[.string b.says, .string b.pred, .int .i64 b.n, .bool b.t0.v, .string b.t0.name, .bool b.t1.v, .string b.t1.name, .bool b.t2.v, .string b.t2.name, .bool b.t3.v, .string b.t3.name])).run Tryd.prog w = .ok (eqA a b) w := by
  have hst : Tryd.prog.stoodInHeld 30 = false := by kernel_rfl
  have p0 : ∀ (s p n c0 c1 c2 c3 c4 c5 c6 c7 : Value) (w : World), (part 9 #[s, p, n, c0, c1, c2, c3, c4, c5, c6, c7] 0).run Tryd.prog w = .ok s w := fun _ _ _ _ _ _ _ _ _ _ _ _ => by kernel_rfl
  have p1 : ∀ (s p n c0 c1 c2 c3 c4 c5 c6 c7 : Value) (w : World), (part 9 #[s, p, n, c0, c1, c2, c3, c4, c5, c6, c7] 1).run Tryd.prog w = .ok p w := fun _ _ _ _ _ _ _ _ _ _ _ _ => by kernel_rfl
  have p2 : ∀ (s p n c0 c1 c2 c3 c4 c5 c6 c7 : Value) (w : World), (part 3 #[s, p, n, c0, c1, c2, c3, c4, c5, c6, c7] 2).run Tryd.prog w = .ok n w := fun _ _ _ _ _ _ _ _ _ _ _ _ => by kernel_rfl
  have p3 : ∀ (s p n c0 c1 c2 c3 c4 c5 c6 c7 : Value) (w : World), (part 28 #[s, p, n, c0, c1, c2, c3, c4, c5, c6, c7] 3).run Tryd.prog w = .ok (.agg #[c0, c1, c2, c3, c4, c5, c6, c7]) w := fun _ _ _ _ _ _ _ _ _ _ _ _ => by kernel_rfl
  have h0 := fun w => eqin_str w (d + 2) a.says b.says
  have h1 := fun w => eqin_str w (d + 2) a.pred b.pred
  have h2 := fun w => eqin_int w (d + 2) a.n b.n
  have h3 := fun w => eqin_terms w d a.t0 a.t1 a.t2 a.t3 b.t0 b.t1 b.t2 b.t3
  unfold eqA
  rw [Op.equalIn]
  generalize (eqT a.t0 b.t0 && (eqT a.t1 b.t1 && (eqT a.t2 b.t2 && eqT a.t3 b.t3))) = q at h3 ⊢
  cases e0 : a.says == b.says <;> cases e1 : a.pred == b.pred <;> cases e2 : a.n == b.n <;> cases q <;> rw [e0] at h0 <;> rw [e1] at h1 <;> rw [e2] at h2 <;>
    simp [run_underlying Tryd.underlying30, hst, p0, p1, p2, p3, h0, h1, h2, h3]
end
theorem eql_term (x y : Bool) (s t : ByteArray) (w : World) : (binOp .eql 27 (.agg #[.bool x, .string s]) (.agg #[.bool y, .string t])).run Tryd.prog w = .ok (.bool (eqT ⟨x, s⟩ ⟨y, t⟩)) w := by
  have h := eqin_term w 9998 ⟨x, s⟩ ⟨y, t⟩
  simp only at h
  simp only [binOp]
  simp [Op.equal, Op.maxDepth, h]
theorem neq_term (x y : Bool) (s t : ByteArray) (w : World) : (binOp .neq 27 (.agg #[.bool x, .string s]) (.agg #[.bool y, .string t])).run Tryd.prog w = .ok (.bool (!eqT ⟨x, s⟩ ⟨y, t⟩)) w := by
  have h := eqin_term w 9998 ⟨x, s⟩ ⟨y, t⟩
  simp only at h
  simp only [binOp]
  simp [Op.equal, Op.maxDepth, h]
theorem eql_atom (a b : AtomD) (w : World) : (binOp .eql 30 (.agg #[.string a.says, .string a.pred, .int .i64 a.n, .bool a.t0.v, .string a.t0.name, .bool a.t1.v, .string a.t1.name, .bool a.t2.v, .string a.t2.name, .bool a.t3.v, .string a.t3.name])
    (.agg #[.string b.says, .string b.pred, .int .i64 b.n, .bool b.t0.v, .string b.t0.name, .bool b.t1.v, .string b.t1.name, .bool b.t2.v, .string b.t2.name, .bool b.t3.v, .string b.t3.name])).run Tryd.prog w = .ok (.bool (eqA a b)) w := by
  have h := eqin_atom w 9996 a b
  simp only [binOp]
  simp [Op.equal, Op.maxDepth, h]
theorem neq_atom (a b : AtomD) (w : World) : (binOp .neq 30 (.agg #[.string a.says, .string a.pred, .int .i64 a.n, .bool a.t0.v, .string a.t0.name, .bool a.t1.v, .string a.t1.name, .bool a.t2.v, .string a.t2.name, .bool a.t3.v, .string a.t3.name])
    (.agg #[.string b.says, .string b.pred, .int .i64 b.n, .bool b.t0.v, .string b.t0.name, .bool b.t1.v, .string b.t1.name, .bool b.t2.v, .string b.t2.name, .bool b.t3.v, .string b.t3.name])).run Tryd.prog w = .ok (.bool (!eqA a b)) w := by
  have h := eqin_atom w 9996 a b
  simp only [binOp]
  simp [Op.equal, Op.maxDepth, h]
end Go.Proofs.YtkcnbdlhggoojaaDoor
