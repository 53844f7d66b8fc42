/-
  Terms and atoms as values: what they are made of, and how they are compared. No condition. The walks of the small functions on terms: which are valid, how many of an atom count. Conditions: as each says. The reference's check of an atom. Condition: the strings of the atom fit. Lists of terms in memory: which of them are valid. Conditions: as each says. The making of an atom by copy; the project's check of an atom. Conditions: as each says. The project's check of an atom. Conditions: its strings fit; the library's variable holds some int.
-/
import Derived.Test.YtamghlneoglfnaaSpG
import Derived.Handy
import Derived.Lib.MinMax
import Derived.Laws.CopyRow
import Derived.Laws.ResultCell
import Derived.Deep.RegionWith
import Derived.Deep.RegionHeld
namespace Go.Proofs.Ytamghlneoglfnaa
open Go.RowKit

structure TermD where
  v : Bool
  name : ByteArray
structure AtomD where
  says : ByteArray
  pred : ByteArray
  n : Int
  t0 : TermD
  t1 : TermD
  t2 : TermD
  t3 : TermD
def zeroT : TermD := ⟨false, ⟨#[]⟩⟩
def argsD (a : AtomD) : List TermD := [a.t0, a.t1, a.t2, a.t3]
theorem TermD.ext' {a b : TermD} (h1 : a.v = b.v) (h2 : a.name = b.name) : a = b := by
  cases a; cases b; cases h1; cases h2; rfl
theorem AtomD.ext' {a b : AtomD} (h1 : a.says = b.says) (h2 : a.pred = b.pred) (h3 : a.n = b.n) (h4 : argsD a = argsD b) : a = b := by
  cases a; cases b; cases h1; cases h2; cases h3
  simp only [argsD, List.cons.injEq, and_true] at h4
  obtain ⟨rfl, rfl, rfl, rfl⟩ := h4
  rfl
def eqT (a b : TermD) : Bool := a.v == b.v && a.name == b.name
def eqA (a b : AtomD) : Bool := a.says == b.says && (a.pred == b.pred && (a.n == b.n && (eqT a.t0 b.t0 && (eqT a.t1 b.t1 && (eqT a.t2 b.t2 && eqT a.t3 b.t3)))))
theorem ba_eq (a b : ByteArray) : (a == b) = true ↔ a = b := by
  constructor
  · intro h
    cases a; cases b
    rename_i x y
    have h' : (x == y) = true := h
    rw [eq_of_beq h']
  · rintro rfl
    cases a
    rename_i x
    show (x == x) = true
    simp
theorem eqT_iff (a b : TermD) : eqT a b = true ↔ a = b := by
  unfold eqT
  rw [Bool.and_eq_true, ba_eq, beq_iff_eq]
  exact ⟨fun ⟨h, k⟩ => TermD.ext' h k, fun h => by subst h; exact ⟨rfl, rfl⟩⟩
theorem eqA_iff (a b : AtomD) : eqA a b = true ↔ a = b := by
  unfold eqA
  simp only [Bool.and_eq_true, ba_eq, eqT_iff, beq_iff_eq]
  exact ⟨fun ⟨h1, h2, h3, h4, h5, h6, h7⟩ => AtomD.ext' h1 h2 h3 (by simp [argsD, h4, h5, h6, h7]), fun h => by subst h; exact ⟨rfl, rfl, rfl, rfl, rfl, rfl, rfl⟩⟩

section
variable (w : World)
theorem eqin_bool (d : Nat) (x y : Bool) : (Op.equalIn (d + 1) 4 (.bool x) (.bool y)).run Try.prog w = .ok (x == y) w := by
  simp [Op.equalIn, run_underlying Try.underlying4]
theorem eqin_int (d : Nat) (x y : Int) : (Op.equalIn (d + 1) 3 (.int .i64 x) (.int .i64 y)).run Try.prog w = .ok (x == y) w := by
  simp [Op.equalIn, run_underlying Try.underlying3]
theorem eqin_str (d : Nat) (x y : ByteArray) : (Op.equalIn (d + 1) 9 (.string x) (.string y)).run Try.prog w = .ok (x == y) w := by
  simp [Op.equalIn, run_underlying Try.underlying9]
theorem eqin_term (d : Nat) (a b : TermD) : (Op.equalIn (d + 2) 24 (.agg #[.bool a.v, .string a.name]) (.agg #[.bool b.v, .string b.name])).run Try.prog w = .ok (eqT a b) w := by
  have hst : Try.prog.stoodInHeld 24 = false := by kernel_rfl
  have p0 : ∀ (a b : Value) (w : World), (part 4 #[a, b] 0).run Try.prog w = .ok a w := fun _ _ _ => by kernel_rfl
  have p1 : ∀ (a b : Value) (w : World), (part 9 #[a, b] 1).run Try.prog w = .ok b w := fun _ _ _ => by kernel_rfl
  have h0 := fun w => eqin_bool w d a.v b.v
  have h1 := fun w => eqin_str w d a.name b.name
  unfold eqT
  rw [Op.equalIn]
  cases e0 : a.v == b.v <;> cases e1 : a.name == b.name <;> rw [e0] at h0 <;> rw [e1] at h1 <;>
    simp [run_underlying Try.underlying24, hst, p0, p1, h0, h1]
set_option maxHeartbeats 4000000 in
theorem eqin_terms (d : Nat) (a0 a1 a2 a3 b0 b1 b2 b3 : TermD) : (Op.equalIn (d + 3) 25 (.agg #[.bool a0.v, .string a0.name, .bool a1.v, .string a1.name, .bool a2.v, .string a2.name, .bool a3.v, .string a3.name])
    (.agg #[.bool b0.v, .string b0.name, .bool b1.v, .string b1.name, .bool b2.v, .string b2.name, .bool b3.v, .string b3.name])).run Try.prog w = .ok (eqT a0 b0 && (eqT a1 b1 && (eqT a2 b2 && eqT a3 b3))) w := by
  have p0 : ∀ (c0 c1 c2 c3 c4 c5 c6 c7 : Value) (w : World), (part 24 #[c0, c1, c2, c3, c4, c5, c6, c7] 0).run Try.prog w = .ok (.agg #[c0, c1]) w := fun _ _ _ _ _ _ _ _ _ => by kernel_rfl
  have p1 : ∀ (c0 c1 c2 c3 c4 c5 c6 c7 : Value) (w : World), (part 24 #[c0, c1, c2, c3, c4, c5, c6, c7] 2).run Try.prog w = .ok (.agg #[c2, c3]) w := fun _ _ _ _ _ _ _ _ _ => by kernel_rfl
  have p2 : ∀ (c0 c1 c2 c3 c4 c5 c6 c7 : Value) (w : World), (part 24 #[c0, c1, c2, c3, c4, c5, c6, c7] 4).run Try.prog w = .ok (.agg #[c4, c5]) w := fun _ _ _ _ _ _ _ _ _ => by kernel_rfl
  have p3 : ∀ (c0 c1 c2 c3 c4 c5 c6 c7 : Value) (w : World), (part 24 #[c0, c1, c2, c3, c4, c5, c6, c7] 6).run Try.prog w = .ok (.agg #[c6, c7]) w := fun _ _ _ _ _ _ _ _ _ => by kernel_rfl
  have hsz : ∀ w, (sizeOf 24).run Try.prog w = .ok 2 w := fun w => by kernel_rfl
  have h0 := fun w => eqin_term w d a0 b0
  have h1 := fun w => eqin_term w d a1 b1
  have h2 := fun w => eqin_term w d a2 b2
  have h3 := fun w => eqin_term w d a3 b3
  rw [Op.equalIn]
  cases e0 : eqT a0 b0 <;> cases e1 : eqT a1 b1 <;> cases e2 : eqT a2 b2 <;> cases e3 : eqT a3 b3 <;> rw [e0] at h0 <;> rw [e1] at h1 <;> rw [e2] at h2 <;> rw [e3] at h3 <;>
    simp [run_underlying Try.underlying25, hsz, p0, p1, p2, p3, h0, h1, h2, h3, Std.Legacy.Range.forIn_eq_forIn_range', List.range']
set_option maxHeartbeats 4000000 in
theorem eqin_atom (d : Nat) (a b : AtomD) : (Op.equalIn (d + 4) 27 (.agg #[.string a.says, .string a.pred, .int .i64 a.n, .bool a.t0.v, .string a.t0.name, .bool a.t1.v, .string a.t1.name, .bool a.t2.v, .string a.t2.name, .bool a.t3.v, .string a.t3.name])
    (.agg #[.string b.says, .string b.pred, .int .i64 b.n, .bool b.t0.v, .string b.t0.name, .bool b.t1.v, .string b.t1.name, .bool b.t2.v, .string b.t2.name, .bool b.t3.v, .string b.t3.name])).run Try.prog w = .ok (eqA a b) w := by
  have hst : Try.prog.stoodInHeld 27 = false := by kernel_rfl
  have p0 : ∀ (s p n c0 c1 c2 c3 c4 c5 c6 c7 : Value) (w : World), (part 9 #[s, p, n, c0, c1, c2, c3, c4, c5, c6, c7] 0).run Try.prog w = .ok s w := fun _ _ _ _ _ _ _ _ _ _ _ _ => by kernel_rfl
  have p1 : ∀ (s p n c0 c1 c2 c3 c4 c5 c6 c7 : Value) (w : World), (part 9 #[s, p, n, c0, c1, c2, c3, c4, c5, c6, c7] 1).run Try.prog w = .ok p w := fun _ _ _ _ _ _ _ _ _ _ _ _ => by kernel_rfl
  have p2 : ∀ (s p n c0 c1 c2 c3 c4 c5 c6 c7 : Value) (w : World), (part 3 #[s, p, n, c0, c1, c2, c3, c4, c5, c6, c7] 2).run Try.prog w = .ok n w := fun _ _ _ _ _ _ _ _ _ _ _ _ => by kernel_rfl
  have p3 : ∀ (s p n c0 c1 c2 c3 c4 c5 c6 c7 : Value) (w : World), (part 25 #[s, p, n, c0, c1, c2, c3, c4, c5, c6, c7] 3).run Try.prog w = .ok (.agg #[c0, c1, c2, c3, c4, c5, c6, c7]) w := fun _ _ _ _ _ _ _ _ _ _ _ _ => by kernel_rfl
  have h0 := fun w => eqin_str w (d + 2) a.says b.says
  have h1 := fun w => eqin_str w (d + 2) a.pred b.pred
  have h2 := fun w => eqin_int w (d + 2) a.n b.n
  have h3 := fun w => eqin_terms w d a.t0 a.t1 a.t2 a.t3 b.t0 b.t1 b.t2 b.t3
  unfold eqA
  rw [Op.equalIn]
  generalize (eqT a.t0 b.t0 && (eqT a.t1 b.t1 && (eqT a.t2 b.t2 && eqT a.t3 b.t3))) = q at h3 ⊢
  cases e0 : a.says == b.says <;> cases e1 : a.pred == b.pred <;> cases e2 : a.n == b.n <;> cases q <;> rw [e0] at h0 <;> rw [e1] at h1 <;> rw [e2] at h2 <;>
    simp [run_underlying Try.underlying27, hst, p0, p1, p2, p3, h0, h1, h2, h3]
end
theorem eql_term (x y : Bool) (s t : ByteArray) (w : World) : (binOp .eql 24 (.agg #[.bool x, .string s]) (.agg #[.bool y, .string t])).run Try.prog w = .ok (.bool (eqT ⟨x, s⟩ ⟨y, t⟩)) w := by
  have h := eqin_term w 9998 ⟨x, s⟩ ⟨y, t⟩
  simp only at h
  simp only [binOp]
  simp [Op.equal, Op.maxDepth, h]
theorem neq_term (x y : Bool) (s t : ByteArray) (w : World) : (binOp .neq 24 (.agg #[.bool x, .string s]) (.agg #[.bool y, .string t])).run Try.prog w = .ok (.bool (!eqT ⟨x, s⟩ ⟨y, t⟩)) w := by
  have h := eqin_term w 9998 ⟨x, s⟩ ⟨y, t⟩
  simp only at h
  simp only [binOp]
  simp [Op.equal, Op.maxDepth, h]
theorem eql_atom (a b : AtomD) (w : World) : (binOp .eql 27 (.agg #[.string a.says, .string a.pred, .int .i64 a.n, .bool a.t0.v, .string a.t0.name, .bool a.t1.v, .string a.t1.name, .bool a.t2.v, .string a.t2.name, .bool a.t3.v, .string a.t3.name])
    (.agg #[.string b.says, .string b.pred, .int .i64 b.n, .bool b.t0.v, .string b.t0.name, .bool b.t1.v, .string b.t1.name, .bool b.t2.v, .string b.t2.name, .bool b.t3.v, .string b.t3.name])).run Try.prog w = .ok (.bool (eqA a b)) w := by
  have h := eqin_atom w 9996 a b
  simp only [binOp]
  simp [Op.equal, Op.maxDepth, h]
theorem neq_atom (a b : AtomD) (w : World) : (binOp .neq 27 (.agg #[.string a.says, .string a.pred, .int .i64 a.n, .bool a.t0.v, .string a.t0.name, .bool a.t1.v, .string a.t1.name, .bool a.t2.v, .string a.t2.name, .bool a.t3.v, .string a.t3.name])
    (.agg #[.string b.says, .string b.pred, .int .i64 b.n, .bool b.t0.v, .string b.t0.name, .bool b.t1.v, .string b.t1.name, .bool b.t2.v, .string b.t2.name, .bool b.t3.v, .string b.t3.name])).run Try.prog w = .ok (.bool (!eqA a b)) w := by
  have h := eqin_atom w 9996 a b
  simp only [binOp]
  simp [Op.equal, Op.maxDepth, h]
end Go.Proofs.Ytamghlneoglfnaa
namespace Go.Proofs.Ytamghlneoglfnaa
open Go.RowKit

def termB (t : TermD) : Bool := if t.v then variB t.name else consB t.name
def cntI (n : Int) : Nat := (min (max n 0) 4).toNat
def cntD (a : AtomD) : Nat := cntI a.n
theorem cntI_le (n : Int) : cntI n ≤ 4 := by unfold cntI; omega
theorem cnt_int (n : Int) : min (max n 0) 4 = (cntI n : Int) := by unfold cntI; omega

/-- what an atom is as a value -/
theorem bel_alloc (w : World) (o : Obj) : Bel w (w.alloc o) := Below.alloc (Below.refl _ _) (Nat.le_refl _) _
theorem bel_alloc2 {w w' : World} {o : Obj} (h : Bel (w.alloc o) w') : Bel w w' := (bel_alloc w o).trans' h

set_option maxHeartbeats 400000 in
theorem rTerm_any (v : Bool) (s : ByteArray) (w : World) (hs : s.size ≤ maxLen) :
    Calls Try.prog 46 #[.agg #[.bool v, .string s]] w fun e w' => e = .returned (.bool (termB ⟨v, s⟩)) ∧ Bel w w' := by
  unfold termB
  cases v
  · go_enter Try.func46, Try.ntmps46
    go_wp2_with (go_at_call 57; refine (rConstant_any _ _ hs).mono ?_; rintro e w1 ⟨rfl, hg⟩)
    go_ret
    exact ⟨rfl, bel_alloc2 hg⟩
  · go_enter Try.func46, Try.ntmps46
    go_wp2_with (go_at_call 59; refine (rVariable_any _ _ hs).mono ?_; rintro e w1 ⟨rfl, rfl⟩)
    go_ret
    exact ⟨rfl, bel_alloc _ _⟩
set_option maxHeartbeats 400000 in
theorem rCount_any (s p : ByteArray) (n : Int) (c0 c1 c2 c3 c4 c5 c6 c7 : Value) (w : World) :
    Calls Try.prog 75 #[.agg #[.string s, .string p, .int .i64 n, c0, c1, c2, c3, c4, c5, c6, c7]] w fun e w' => e = .returned (.int .i64 (cntI n)) ∧ Bel w w' := by
  have h := cnt_int n
  go_enter Try.func75, Try.ntmps75
  go_wp2
  go_ret
  exact ⟨rfl, bel_alloc _ _⟩
set_option maxHeartbeats 400000 in
theorem counted_any (s p : ByteArray) (n : Int) (c0 c1 c2 c3 c4 c5 c6 c7 : Value) (w : World) :
    Calls Try.prog 54 #[.agg #[.string s, .string p, .int .i64 n, c0, c1, c2, c3, c4, c5, c6, c7]] w fun e w' => e = .returned (.int .i64 (cntI n)) ∧ Bel w w' := by
  have h := cnt_int n
  go_enter Try.func54, Try.ntmps54
  go_wp2
  go_ret
  exact ⟨rfl, bel_alloc _ _⟩
def lightA (a : AtomD) : Bool := decide ((a.says.size : Int) ≤ 300) && decide ((a.pred.size : Int) ≤ 300) && decide ((a.t0.name.size : Int) ≤ 300) && decide ((a.t1.name.size : Int) ≤ 300) && decide ((a.t2.name.size : Int) ≤ 300) && decide ((a.t3.name.size : Int) ≤ 300)
/-- the strings of an atom fit -/
structure AtomOk (a : AtomD) : Prop where
  says : a.says.size ≤ 9223372036854775807
  pred : a.pred.size ≤ 9223372036854775807
  n : -9223372036854775808 ≤ a.n ∧ a.n ≤ 9223372036854775807
  t0 : a.t0.name.size ≤ 9223372036854775807
  t1 : a.t1.name.size ≤ 9223372036854775807
  t2 : a.t2.name.size ≤ 9223372036854775807
  t3 : a.t3.name.size ≤ 9223372036854775807
theorem ret_bool {a b : Bool} (h : a = b) : Ending.returned (.bool a) = .returned (.bool b) := by rw [h]
theorem ret_int {a b : Int} (h : a = b) : Ending.returned (.int .i64 a) = .returned (.int .i64 b) := by rw [h]
set_option maxHeartbeats 2000000 in
theorem light_any (a : AtomD) (w : World) (ha : AtomOk a) :
    Calls Try.prog 19 #[.agg #[.string a.says, .string a.pred, .int .i64 a.n, .bool a.t0.v, .string a.t0.name, .bool a.t1.v, .string a.t1.name, .bool a.t2.v, .string a.t2.name, .bool a.t3.v, .string a.t3.name]] w fun e w' => e = .returned (.bool (lightA a)) ∧ Bel w w' := by
  obtain ⟨h1, h2, _, h3, h4, h5, h6⟩ := ha
  have hL : lightA a = (decide ((a.says.size : Int) ≤ 300) && decide ((a.pred.size : Int) ≤ 300) && decide ((a.t0.name.size : Int) ≤ 300) && decide ((a.t1.name.size : Int) ≤ 300) && decide ((a.t2.name.size : Int) ≤ 300) && decide ((a.t3.name.size : Int) ≤ 300)) := rfl
  have HL := Lib.hid hL
  clear hL
  rcases Bool.eq_false_or_eq_true (decide ((a.says.size : Int) ≤ 300)) with q1 | q1 <;> rcases Bool.eq_false_or_eq_true (decide ((a.pred.size : Int) ≤ 300)) with q2 | q2
  all_goals
    go_enter Try.func19, Try.ntmps19
    go_wp2
    go_rounds 5
    all_goals go_ret
    all_goals
      refine ⟨ret_bool ?_, bel_alloc _ _⟩
      rw [HL.out, Bool.eq_iff_iff]
      simp only [decide_eq_true_eq, decide_eq_false_iff_not] at q1 q2
      simp only [Bool.and_eq_true, decide_eq_true_eq, Bool.false_eq_true, false_iff]
      first | omega | (simp only [eq_self_iff_true, true_iff]; omega)

/-- block b is the atom a -/
def AtomAt (w : World) (b : Nat) (a : AtomD) : Prop := w.heap[b]? = some (.cells #[.string a.says, .string a.pred, .int .i64 a.n, .bool a.t0.v, .string a.t0.name, .bool a.t1.v, .string a.t1.name, .bool a.t2.v, .string a.t2.name, .bool a.t3.v, .string a.t3.name] 27)
theorem AtomAt.new (w : World) (a : AtomD) : AtomAt (w.alloc (.cells #[.string a.says, .string a.pred, .int .i64 a.n, .bool a.t0.v, .string a.t0.name, .bool a.t1.v, .string a.t1.name, .bool a.t2.v, .string a.t2.name, .bool a.t3.v, .string a.t3.name] 27)) w.heap.size a := heap_alloc_new _ _
theorem AtomAt.lt {w : World} {b : Nat} {a : AtomD} (h : AtomAt w b a) : b < w.heap.size := (Array.getElem?_eq_some_iff.1 h).1
theorem AtomAt.bel {w w' : World} {b : Nat} {a : AtomD} (h : AtomAt w b a) (hg : Bel w w') : AtomAt w' b a := (hg.block b h.lt).trans h
theorem AtomAt.cells {w : World} {b : Nat} {a : AtomD} (h : AtomAt w b a) : w.cell? ⟨b, 0, none⟩ = some (.string a.says) ∧ w.cell? ⟨b, 1, none⟩ = some (.string a.pred) ∧ w.cell? ⟨b, 2, none⟩ = some (.int .i64 a.n) ∧
    w.cell? ⟨b, 3, none⟩ = some (.bool a.t0.v) ∧ w.cell? ⟨b, 4, none⟩ = some (.string a.t0.name) ∧ w.cell? ⟨b, 5, none⟩ = some (.bool a.t1.v) ∧ w.cell? ⟨b, 6, none⟩ = some (.string a.t1.name) ∧
    w.cell? ⟨b, 7, none⟩ = some (.bool a.t2.v) ∧ w.cell? ⟨b, 8, none⟩ = some (.string a.t2.name) ∧ w.cell? ⟨b, 9, none⟩ = some (.bool a.t3.v) ∧ w.cell? ⟨b, 10, none⟩ = some (.string a.t3.name) := by
  unfold AtomAt at h
  refine ⟨?_, ?_, ?_, ?_, ?_, ?_, ?_, ?_, ?_, ?_, ?_⟩ <;> simp [World.cell?, h]

def groundD (a : AtomD) : Bool := ((argsD a).take (cntD a)).all (fun t => !t.v)
end Go.Proofs.Ytamghlneoglfnaa
namespace Go.Proofs.Ytamghlneoglfnaa
open Go.RowKit

def zerosB (l : List TermD) : Bool := l.all (fun t => eqT t zeroT)
def checkD (a : AtomD) : Int :=
  if (prinB a.says && prinB a.pred) = true then
    if a.n < 0 ∨ 4 < a.n then 4
    else if ((argsD a).take (cntI a.n)).all termB = true then
      if zerosB ((argsD a).drop (cntI a.n)) = true then 0 else 15
    else 3
  else 3
theorem cntI_0 : cntI 0 = 0 := by decide
theorem cntI_1 : cntI 1 = 1 := by decide
theorem cntI_2 : cntI 2 = 2 := by decide
theorem cntI_3 : cntI 3 = 3 := by decide
theorem cntI_4 : cntI 4 = 4 := by decide
theorem check_text {a : AtomD} (h : (prinB a.says && prinB a.pred) = false) : checkD a = 3 := by unfold checkD; rw [if_neg (by simp [h])]
theorem check_long {a : AtomD} (h : (prinB a.says && prinB a.pred) = true) (h2 : a.n < 0 ∨ 4 < a.n) : checkD a = 4 := by unfold checkD; rw [if_pos h, if_pos h2]
theorem check_term {a : AtomD} (h : (prinB a.says && prinB a.pred) = true) (h2 : ¬ (a.n < 0 ∨ 4 < a.n)) (h3 : ((argsD a).take (cntI a.n)).all termB = false) : checkD a = 3 := by unfold checkD; rw [if_pos h, if_neg h2, if_neg (by simp [h3])]
theorem check_bad {a : AtomD} (h : (prinB a.says && prinB a.pred) = true) (h2 : ¬ (a.n < 0 ∨ 4 < a.n)) (h3 : ((argsD a).take (cntI a.n)).all termB = true) (h4 : zerosB ((argsD a).drop (cntI a.n)) = false) : checkD a = 15 := by unfold checkD; rw [if_pos h, if_neg h2, if_pos h3, if_neg (by simp [h4])]
theorem check_ok {a : AtomD} (h : (prinB a.says && prinB a.pred) = true) (h2 : ¬ (a.n < 0 ∨ 4 < a.n)) (h3 : ((argsD a).take (cntI a.n)).all termB = true) (h4 : zerosB ((argsD a).drop (cntI a.n)) = true) : checkD a = 0 := by unfold checkD; rw [if_pos h, if_neg h2, if_pos h3, if_pos h4]

set_option maxRecDepth 20000 in
set_option maxHeartbeats 8000000 in
theorem rCheck_any (a : AtomD) (w : World) (ha : AtomOk a) :
    Calls Try.prog 30 #[.agg #[.string a.says, .string a.pred, .int .i64 a.n, .bool a.t0.v, .string a.t0.name, .bool a.t1.v, .string a.t1.name, .bool a.t2.v, .string a.t2.name, .bool a.t3.v, .string a.t3.name]] w fun e w' => e = .returned (.int .i64 (checkD a)) ∧ Bel w w' := by
  obtain ⟨g1, g2, ⟨gn1, gn2⟩, g3, g4, g5, g6⟩ := ha
  have hA := AtomAt.new w a
  have hb := bel_alloc w (.cells #[.string a.says, .string a.pred, .int .i64 a.n, .bool a.t0.v, .string a.t0.name, .bool a.t1.v, .string a.t1.name, .bool a.t2.v, .string a.t2.name, .bool a.t3.v, .string a.t3.name] 27)
  obtain ⟨s, p, n, ⟨v0, s0⟩, ⟨v1, s1⟩, ⟨v2, s2⟩, ⟨v3, s3⟩⟩ := a
  simp only at g1 g2 gn1 gn2 g3 g4 g5 g6
  rcases Bool.eq_false_or_eq_true (prinB s) with p1 | p1
  case inr =>
    have HE := Lib.hid (check_text (a := ⟨s, p, n, ⟨v0, s0⟩, ⟨v1, s1⟩, ⟨v2, s2⟩, ⟨v3, s3⟩⟩) (by simp [p1]))
    go_enter Try.func30, Try.ntmps30
    go_wp2_with (go_at_call 44; refine (rPrincipal_any _ _ (by exact g1)).mono ?_; rintro e w1 ⟨rfl, hg⟩; have hb := hb.trans' hg; clear hg)
    go_ret
    exact ⟨ret_int HE.out.symm, hb⟩
  rcases Bool.eq_false_or_eq_true (prinB p) with p2 | p2
  case inr =>
    have HE := Lib.hid (check_text (a := ⟨s, p, n, ⟨v0, s0⟩, ⟨v1, s1⟩, ⟨v2, s2⟩, ⟨v3, s3⟩⟩) (by simp [p2]))
    go_enter Try.func30, Try.ntmps30
    go_wp2_with (first | (go_at_call 44; refine (rPrincipal_any _ _ (by exact g1)).mono ?_; rintro e w1 ⟨rfl, hg⟩; have hA := hA.bel hg; obtain ⟨c0, c1, c2, c3, c4, c5, c6, c7, c8, c9, c10⟩ := hA.cells; have hb := hb.trans' hg; clear hg) | (go_at_call 45; refine (rPredicate_any _ _ (by exact g2)).mono ?_; rintro e w1 ⟨rfl, hg⟩; have hb := hb.trans' hg; clear hg))
    go_ret
    exact ⟨ret_int HE.out.symm, hb⟩
  have p3 : (prinB s && prinB p) = true := by simp [p1, p2]
  have P3 := Lib.hid p3
  clear p3
  by_cases hn : n < 0 ∨ 4 < n
  · have HE := Lib.hid (check_long (a := ⟨s, p, n, ⟨v0, s0⟩, ⟨v1, s1⟩, ⟨v2, s2⟩, ⟨v3, s3⟩⟩) P3.out hn)
    rcases hn with hn | hn
    · go_enter Try.func30, Try.ntmps30
      go_wp2_with (first | (go_at_call 44; refine (rPrincipal_any _ _ (by exact g1)).mono ?_; rintro e w1 ⟨rfl, hg⟩; have hA := hA.bel hg; obtain ⟨c0, c1, c2, c3, c4, c5, c6, c7, c8, c9, c10⟩ := hA.cells; have hb := hb.trans' hg; clear hg) | (go_at_call 45; refine (rPredicate_any _ _ (by exact g2)).mono ?_; rintro e w1 ⟨rfl, hg⟩; have hA := hA.bel hg; obtain ⟨c0, c1, c2, c3, c4, c5, c6, c7, c8, c9, c10⟩ := hA.cells; have hb := hb.trans' hg; clear hg))
      go_ret
      exact ⟨ret_int HE.out.symm, hb⟩
    · have hn0 : 0 ≤ n := by omega
      go_enter Try.func30, Try.ntmps30
      go_wp2_with (first | (go_at_call 44; refine (rPrincipal_any _ _ (by exact g1)).mono ?_; rintro e w1 ⟨rfl, hg⟩; have hA := hA.bel hg; obtain ⟨c0, c1, c2, c3, c4, c5, c6, c7, c8, c9, c10⟩ := hA.cells; have hb := hb.trans' hg; clear hg) | (go_at_call 45; refine (rPredicate_any _ _ (by exact g2)).mono ?_; rintro e w1 ⟨rfl, hg⟩; have hA := hA.bel hg; obtain ⟨c0, c1, c2, c3, c4, c5, c6, c7, c8, c9, c10⟩ := hA.cells; have hb := hb.trans' hg; clear hg))
      go_ret
      exact ⟨ret_int HE.out.symm, hb⟩
  have hq := neq_term
  have HT := Lib.hid (check_term (a := ⟨s, p, n, ⟨v0, s0⟩, ⟨v1, s1⟩, ⟨v2, s2⟩, ⟨v3, s3⟩⟩) P3.out hn)
  have HB := Lib.hid (check_bad (a := ⟨s, p, n, ⟨v0, s0⟩, ⟨v1, s1⟩, ⟨v2, s2⟩, ⟨v3, s3⟩⟩) P3.out hn)
  have HO := Lib.hid (check_ok (a := ⟨s, p, n, ⟨v0, s0⟩, ⟨v1, s1⟩, ⟨v2, s2⟩, ⟨v3, s3⟩⟩) P3.out hn)
  obtain rfl | rfl | rfl | rfl | rfl : n = 0 ∨ n = 1 ∨ n = 2 ∨ n = 3 ∨ n = 4 := by omega
  all_goals
    clear hn gn1 gn2
    go_enter Try.func30, Try.ntmps30
    go_wp2_with (first | (go_at_call 44; refine (rPrincipal_any _ _ (by exact g1)).mono ?_; rintro e w1 ⟨rfl, hg⟩; have hA := hA.bel hg; obtain ⟨c0, c1, c2, c3, c4, c5, c6, c7, c8, c9, c10⟩ := hA.cells; have hb := hb.trans' hg; clear hg) | (go_at_call 45; refine (rPredicate_any _ _ (by exact g2)).mono ?_; rintro e w1 ⟨rfl, hg⟩; have hA := hA.bel hg; obtain ⟨c0, c1, c2, c3, c4, c5, c6, c7, c8, c9, c10⟩ := hA.cells; have hb := hb.trans' hg; clear hg))
    refine wp_loop_rounds 5 ?_
    repeat any_goals (rw [rounds_succ]; go_wp2_with (go_at_call 46; refine (rTerm_any _ _ _ (by first | exact g3 | exact g4 | exact g5 | exact g6)).mono ?_; rintro e w1 ⟨rfl, hg⟩; have hA := hA.bel hg; obtain ⟨c0, c1, c2, c3, c4, c5, c6, c7, c8, c9, c10⟩ := hA.cells; have hb := hb.trans' hg; clear hg))
    any_goals (refine wp_loop_rounds 5 ?_; repeat any_goals (rw [rounds_succ]; go_wp2))
    all_goals go_ret
    all_goals
      refine ⟨ret_int ?_, hb⟩
      clear hA hb hq
      try simp only [Bool.not_eq_false', Bool.not_eq_true'] at *
      first | (refine (HT.out ?_).symm; simp [argsD, cntI_1, cntI_2, cntI_3, cntI_4, *]; done) | (refine (HB.out ?_ ?_).symm <;> (simp [argsD, cntI_0, cntI_1, cntI_2, cntI_3, zerosB, zeroT, *]; done)) | (refine (HO.out ?_ ?_).symm <;> (simp [argsD, cntI_0, cntI_1, cntI_2, cntI_3, cntI_4, zerosB, zeroT, *]; done))
end Go.Proofs.Ytamghlneoglfnaa
namespace Go.Proofs.Ytamghlneoglfnaa
open Go.RowKit

/-- the terms of a slice value -/
def TermsAt (w : World) (A : Option Addr) (l : List TermD) : Prop := ∀ j (h : j < l.length), ∃ b o, A = some ⟨b, o, none⟩ ∧ b < w.heap.size ∧ w.cell? ⟨b, o + j * 2, none⟩ = some (.bool l[j].v) ∧ w.cell? ⟨b, o + j * 2 + 1, none⟩ = some (.string l[j].name)
theorem TermsAt.get {w : World} {A : Option Addr} {l : List TermD} (h : TermsAt w A l) (h0 : 0 < l.length) : ∃ b o, A = some ⟨b, o, none⟩ ∧ b < w.heap.size ∧ ∀ j (h : j < l.length), w.cell? ⟨b, o + j * 2, none⟩ = some (.bool l[j].v) ∧ w.cell? ⟨b, o + j * 2 + 1, none⟩ = some (.string l[j].name) := by
  obtain ⟨b, o, rfl, hb, _⟩ := h 0 h0
  refine ⟨b, o, rfl, hb, fun j hj => ?_⟩
  obtain ⟨b', o', e, _, hc⟩ := h j hj
  injection e with e
  injection e with e1 e2
  subst e1 e2
  exact hc
theorem TermsAt.bel {w w' : World} {A : Option Addr} {l : List TermD} (h : TermsAt w A l) (hg : Bel w w') : TermsAt w' A l := fun j hj => by
  obtain ⟨b, o, e, hb, h1, h2⟩ := h j hj
  exact ⟨b, o, e, Nat.lt_of_lt_of_le hb hg.size, cell_later hg h1, cell_later hg h2⟩
theorem TermsAt.take {w : World} {A : Option Addr} {l : List TermD} (h : TermsAt w A l) (k : Nat) : TermsAt w A (l.take k) := fun j hj => by
  have hj' : j < l.length := by rw [List.length_take] at hj; omega
  obtain ⟨b, o, e, hb, h1, h2⟩ := h j hj'
  exact ⟨b, o, e, hb, by rw [h1]; simp, by rw [h2]; simp⟩
theorem TermsAt.nil (w : World) (A : Option Addr) : TermsAt w A [] := fun j hj => by simp at hj
theorem AtomAt.terms {w : World} {b : Nat} {a : AtomD} (h : AtomAt w b a) : TermsAt w (some ⟨b, 3, none⟩) (argsD a) := fun j hj => by
  obtain ⟨_, _, _, c3, c4, c5, c6, c7, c8, c9, c10⟩ := h.cells
  refine ⟨b, 3, rfl, h.lt, ?_⟩
  match j, hj with
  | 0, _ => exact ⟨c3, c4⟩
  | 1, _ => exact ⟨c5, c6⟩
  | 2, _ => exact ⟨c7, c8⟩
  | 3, _ => exact ⟨c9, c10⟩

end Go.Proofs.Ytamghlneoglfnaa
namespace Go.Proofs.Ytamghlneoglfnaa
open Go.RowKit

def storedD (s p : ByteArray) (l : List TermD) : AtomD := ⟨s, p, l.length, l.getD 0 zeroT, l.getD 1 zeroT, l.getD 2 zeroT, l.getD 3 zeroT⟩
def termCells : List TermD → List Value
  | [] => []
  | x :: l => .bool x.v :: .string x.name :: termCells l
theorem termCells_len : ∀ l, (termCells l).length = l.length * 2
  | [] => rfl
  | x :: l => by simp only [termCells, List.length_cons, termCells_len l]; omega
theorem termCells_at : ∀ (l : List TermD) (j : Nat) (u : Value), (termCells l)[j]? = some u → ∃ (q : Nat) (hq : q < l.length), (j = q * 2 ∧ u = .bool l[q].v) ∨ (j = q * 2 + 1 ∧ u = .string l[q].name)
  | [], j, u, h => by simp [termCells] at h
  | x :: l, 0, u, h => ⟨0, by simp, .inl ⟨rfl, by simpa [termCells] using h.symm⟩⟩
  | x :: l, 1, u, h => ⟨0, by simp, .inr ⟨rfl, by simpa [termCells] using h.symm⟩⟩
  | x :: l, j + 2, u, h => by
    obtain ⟨q, hq, h'⟩ := termCells_at l j u (by simpa [termCells] using h)
    refine ⟨q + 1, by simpa using hq, ?_⟩
    rcases h' with ⟨h1, h2⟩ | ⟨h1, h2⟩
    · exact .inl ⟨by omega, by simpa using h2⟩
    · exact .inr ⟨by omega, by simpa using h2⟩
theorem termCells_one : ∀ (l : List TermD), ∀ u ∈ termCells l, u.oneCell' = true
  | [], u, h => by simp [termCells] at h
  | x :: l, u, h => by
    simp only [termCells, List.mem_cons] at h
    rcases h with rfl | rfl | h
    · rfl
    · rfl
    · exact termCells_one l u h
theorem addr_add (b o j : Nat) : (⟨b, o, none⟩ : Addr).add j = ⟨b, o + j, none⟩ := by unfold Addr.add; split <;> simp_all
theorem TermsAt.load {w : World} {b o : Nat} {l : List TermD} (h : TermsAt w (some ⟨b, o, none⟩) l) : ∀ j v, (termCells l)[j]? = some v → w.cell? ((⟨b, o, none⟩ : Addr).add j) = some v := by
  intro j v hj
  obtain ⟨q, hq, h'⟩ := termCells_at l j v hj
  obtain ⟨b', o', e, _, h1, h2⟩ := h q hq
  injection e with e
  injection e with e1 e2
  subst e1 e2
  rw [addr_add]
  rcases h' with ⟨rfl, rfl⟩ | ⟨rfl, rfl⟩
  · exact h1
  · rw [← Nat.add_assoc]; exact h2
theorem info_Term : (Try.prog.info? 24).map (·.size) = some 2 := by kernel_rfl

theorem bel_drew' {a b : World} (h : Bel a b) : Bel a b.drew := Below.drew h
theorem AtomAt.drew {w : World} {b : Nat} {a : AtomD} (h : AtomAt w b a) : AtomAt w.drew b a := h
theorem copy_terms (w : World) (g : Nat) (s p : ByteArray) (n : Int) (A : Option Addr) (l : List TermD) (ca : Nat) (hl : l.length ≤ 4) (hg : AtomAt w g ⟨s, p, n, zeroT, zeroT, zeroT, zeroT⟩) (h : TermsAt w A l) :
    ∃ w2, (Builtin.copy_ #[75, 75] 3 #[.slice (some ⟨g, 3, none⟩) 4 4, .slice A l.length ca]).run Try.prog w = .ok (.int .i64 l.length) w2 ∧ AtomAt w2 g ⟨s, p, n, l.getD 0 zeroT, l.getD 1 zeroT, l.getD 2 zeroT, l.getD 3 zeroT⟩ ∧ Below g w w2 := by
  have hmin : Nat.min l.length 4 = l.length := Nat.min_eq_left hl
  have hu := Try.underlying75
  cases hq : Try.prog.info? 24 with
  | none => have := info_Term; simp [hq] at this
  | some i =>
    have hi : i.size = 2 := by have := info_Term; simpa [hq] using this
    by_cases h0 : l.length = 0
    · obtain rfl : l = [] := List.eq_nil_of_length_eq_zero h0
      refine ⟨w, ?_, hg, Below.refl _ _⟩
      cases A with
      | none => simp [Builtin.copy_, run_underlying hu, Builtin.lenOf, Builtin.firstCells, sizeOf, typeInfo, hq, storeCells, goInt]
      | some a =>
        have hld := run_loadCells_list (P := Try.prog) w a [] (by simp)
        simp only [List.length_nil] at hld
        simp [Builtin.copy_, run_underlying hu, Builtin.lenOf, Builtin.firstCells, sizeOf, typeInfo, hq, storeCells, goInt, hld]
    · obtain ⟨b, o, rfl, _, _⟩ := h.get (by omega)
      have hld := run_loadCells_list (P := Try.prog) w ⟨b, o, none⟩ (termCells l) h.load
      rw [termCells_len] at hld
      have hst := run_storeCells_at Try.prog g 3 27 (termCells l) 0 _ w hg (by rw [termCells_len]; simp; omega) (termCells_one l)
      refine ⟨_, by simp [Builtin.copy_, run_underlying hu, Builtin.lenOf, Builtin.firstCells, sizeOf, typeInfo, hq, hi, hmin, hld, hst, goInt]; rfl, ?_, ?_⟩
      · unfold AtomAt
        rw [setRow_heap w g _ _ 27 _ hg]
        match l, hl, h0 with
        | [x0], _, _ => rfl
        | [x0, x1], _, _ => rfl
        | [x0, x1, x2], _, _ => rfl
        | [x0, x1, x2, x3], _, _ => rfl
        | _ :: _ :: _ :: _ :: _ :: _, h5, _ => simp at h5
      · exact ⟨rfl, rfl, rfl, by simp [World.setRow], fun k hk => setRow_other w g k _ (by omega)⟩

theorem store_atom {w : World} {b : Nat} {a0 : AtomD} (h : AtomAt w b a0) (q : AtomD) : ∃ w3, (storeVar 27 ⟨b, 0, none⟩ (.agg #[.string q.says, .string q.pred, .int .i64 q.n, .bool q.t0.v, .string q.t0.name, .bool q.t1.v, .string q.t1.name, .bool q.t2.v, .string q.t2.name, .bool q.t3.v, .string q.t3.name])).run Try.prog w = .ok () w3 ∧ AtomAt w3 b q ∧ Below b w w3 ∧ ∀ k, k ≠ b → w3.heap[k]? = w.heap[k]? :=
  ⟨_, run_storeVar_row w b 27 27 _ #[.string q.says, .string q.pred, .int .i64 q.n, .bool q.t0.v, .string q.t0.name, .bool q.t1.v, .string q.t1.name, .bool q.t2.v, .string q.t2.name, .bool q.t3.v, .string q.t3.name] h (by kernel_rfl) rfl (by simp [Value.oneCell']), setRow_heap w b _ _ 27 _ h, ⟨rfl, rfl, rfl, by simp [World.setRow], fun k hk => setRow_other w b k _ (by omega)⟩, fun k hk => setRow_other w b k _ hk⟩

theorem load_atom {w : World} {g : Nat} {q : AtomD} (h : AtomAt w g q) : (loadVar 27 ⟨g, 0, none⟩).run Try.prog w = .ok (.agg #[.string q.says, .string q.pred, .int .i64 q.n, .bool q.t0.v, .string q.t0.name, .bool q.t1.v, .string q.t1.name, .bool q.t2.v, .string q.t2.name, .bool q.t3.v, .string q.t3.name]) w :=
  run_loadVar_row w g 27 27 _ (0, 0) _ h Try.underlying27 rfl (by kernel_rfl)
theorem results_atom {fn : Func} {p : Tmp} (h : fn.results = #[.cell p 27]) (tmps : Array Value) (w : World) (g : Nat) (q : AtomD) (hp : tmps.getD p undef = .pointer (some ⟨g, 0, none⟩)) (hg : AtomAt w g q) :
    (results fn tmps).run Try.prog w = .ok (.agg #[.string q.says, .string q.pred, .int .i64 q.n, .bool q.t0.v, .string q.t0.name, .bool q.t1.v, .string q.t1.name, .bool q.t2.v, .string q.t2.name, .bool q.t3.v, .string q.t3.name]) w :=
  results_cell_row h tmps w g 27 _ (0, 0) _ hp hg Try.underlying27 rfl (by kernel_rfl)
theorem results_atom2 {fn : Func} {p u : Tmp} (h : fn.results = #[.cell p 27, .tmp u]) (tmps : Array Value) (w : World) (g : Nat) (q : AtomD) (hp : tmps.getD p undef = .pointer (some ⟨g, 0, none⟩)) (hg : AtomAt w g q) :
    (results fn tmps).run Try.prog w = .ok (.tuple #[.agg #[.string q.says, .string q.pred, .int .i64 q.n, .bool q.t0.v, .string q.t0.name, .bool q.t1.v, .string q.t1.name, .bool q.t2.v, .string q.t2.name, .bool q.t3.v, .string q.t3.name], tmps.getD u undef]) w := by
  rw [results_cell_tmp h, hp]
  simp [asAddr, load_atom hg, Result.andThen]
theorem wpList_store_atom {ops : Array Oper} {rest : List Oper} {o : Oper} {a : Act} {w : World} {Q : Exit → Act → World → Prop} (hgd : o.guard = none) (x y : Operand) (ho : o.op = .store 27 x y) (g : Nat) (q : AtomD)
    (hx : a.eval x = .pointer (some ⟨g, 0, none⟩)) (hy : a.eval y = .agg #[.string q.says, .string q.pred, .int .i64 q.n, .bool q.t0.v, .string q.t0.name, .bool q.t1.v, .string q.t1.name, .bool q.t2.v, .string q.t2.name, .bool q.t3.v, .string q.t3.name]) {a0 : AtomD} (hg : AtomAt w g a0)
    (h : ∀ w', AtomAt w' g q → Below g w w' → (∀ k, k ≠ g → w'.heap[k]? = w.heap[k]?) → wpList Try.prog ops Q rest (a.put o.dst undef) w') : wpList Try.prog ops Q (o :: rest) a w := by
  obtain ⟨w3, hst, h1, h2, h3⟩ := store_atom hg q
  refine wpList_plain hgd fun _ hK => ?_
  unfold Oper.wp execOp
  simp only [ho, hx, hy, Instr.storeAt, Instr.sureAddr, Sem.run_bind, Sem.run_pure, Result.andThen_ok, hst]
  exact hK _ _ (h w3 h1 h2 h3)

end Go.Proofs.Ytamghlneoglfnaa
namespace Go.Proofs.Ytamghlneoglfnaa
open Go.RowKit

theorem eqA_stored (a : AtomD) (k : Nat) (hk : k ≤ 4) (hn : a.n = k) : eqA a (storedD a.says a.pred ((argsD a).take k)) = zerosB ((argsD a).drop k) := by
  have hr : ∀ s : ByteArray, (s == s) = true := fun s => (ba_eq s s).2 rfl
  have ht : ∀ t : TermD, eqT t t = true := fun t => (eqT_iff t t).2 rfl
  obtain rfl | rfl | rfl | rfl | rfl : k = 0 ∨ k = 1 ∨ k = 2 ∨ k = 3 ∨ k = 4 := by omega
  all_goals simp [eqA, storedD, argsD, zerosB, hr, ht, hn]

end Go.Proofs.Ytamghlneoglfnaa
