/-
  The making of an atom by copy; the project's check of an atom. Conditions: as each says.
-/
import Derived.Test.YtkcnbdlhggoojaaDoorTmD
import Derived.Laws.CopyRow
import Derived.Laws.ResultCell
import Derived.Deep.RegionWith
namespace Go.Proofs.YtkcnbdlhggoojaaDoor
open Go.RowKit

def storedD (s p : ByteArray) (l : List TermD) : AtomD := ⟨s, p, l.length, l.getD 0 zeroT, l.getD 1 zeroT, l.getD 2 zeroT, l.getD 3 zeroT⟩
def termCells : List TermD → List Value
  | [] => []
  | x :: l => .bool x.v :: .string x.name :: termCells l
theorem termCells_len : ∀ l, (termCells l).length = l.length * 2
  | [] => rfl
  | x :: l => by simp only [termCells, List.length_cons, termCells_len l]; omega
theorem termCells_at : ∀ (l : List TermD) (j : Nat) (u : Value), (termCells l)[j]? = some u → ∃ (q : Nat) (hq : q < l.length), (j = q * 2 ∧ u = .bool l[q].v) ∨ (j = q * 2 + 1 ∧ u = .string l[q].name)
  | [], j, u, h => by simp [termCells] at h
  | x :: l, 0, u, h => ⟨0, by simp, .inl ⟨rfl, by simpa [termCells] using h.symm⟩⟩
  | x :: l, 1, u, h => ⟨0, by simp, .inr ⟨rfl, by simpa [termCells] using h.symm⟩⟩
  | x :: l, j + 2, u, h => by
    obtain ⟨q, hq, h'⟩ := termCells_at l j u (by simpa [termCells] using h)
    refine ⟨q + 1, by simpa using hq, ?_⟩
    rcases h' with ⟨h1, h2⟩ | ⟨h1, h2⟩
    · exact .inl ⟨by omega, by simpa using h2⟩
    · exact .inr ⟨by omega, by simpa using h2⟩
theorem termCells_one : ∀ (l : List TermD), ∀ u ∈ termCells l, u.oneCell' = true
  | [], u, h => by simp [termCells] at h
  | x :: l, u, h => by
    simp only [termCells, List.mem_cons] at h
    rcases h with rfl | rfl | h
    · rfl
    · rfl
    · exact termCells_one l u h
theorem addr_add (b o j : Nat) : (⟨b, o, none⟩ : Addr).add j = ⟨b, o + j, none⟩ := by unfold Addr.add; split <;> simp_all
theorem TermsAt.load {w : World} {b o : Nat} {l : List TermD} (h : TermsAt w (some ⟨b, o, none⟩) l) : ∀ j v, (termCells l)[j]? = some v → w.cell? ((⟨b, o, none⟩ : Addr).add j) = some v := by
  intro j v hj
  obtain ⟨q, hq, h'⟩ := termCells_at l j v hj
  obtain ⟨b', o', e, _, h1, h2⟩ := h q hq
  injection e with e
  injection e with e1 e2
  subst e1 e2
  rw [addr_add]
  rcases h' with ⟨rfl, rfl⟩ | ⟨rfl, rfl⟩
  · exact h1
  · rw [← Nat.add_assoc]; exact h2
theorem info_Term : (Tryd.prog.info? 27).map (·.size) = some 2 := by kernel_rfl

theorem bel_drew' {a b : World} (h : Bel a b) : Bel a b.drew := Below.drew h
theorem AtomAt.drew {w : World} {b : Nat} {a : AtomD} (h : AtomAt w b a) : AtomAt w.drew b a := h
theorem store_atom {w : World} {b : Nat} {a0 : AtomD} (h : AtomAt w b a0) (q : AtomD) : ∃ w3, (storeVar 30 ⟨b, 0, none⟩ (.agg #[.string q.says, .string q.pred, .int .i64 q.n, .bool q.t0.v, .string q.t0.name, .bool q.t1.v, .string q.t1.name, .bool q.t2.v, .string q.t2.name, .bool q.t3.v, .string q.t3.name])).run Tryd.prog w = .ok () w3 ∧ AtomAt w3 b q ∧ Below b w w3 ∧ ∀ k, k ≠ b → w3.heap[k]? = w.heap[k]? :=
  ⟨_, run_storeVar_row w b 30 30 _ #[.string q.says, .string q.pred, .int .i64 q.n, .bool q.t0.v, .string q.t0.name, .bool q.t1.v, .string q.t1.name, .bool q.t2.v, .string q.t2.name, .bool q.t3.v, .string q.t3.name] h (by kernel_rfl) rfl (by simp [Value.oneCell']), setRow_heap w b _ _ 30 _ h, ⟨rfl, rfl, rfl, by simp [World.setRow], fun k hk => setRow_other w b k _ (by omega)⟩, fun k hk => setRow_other w b k _ hk⟩

theorem load_atom {w : World} {g : Nat} {q : AtomD} (h : AtomAt w g q) : (loadVar 30 ⟨g, 0, none⟩).run Tryd.prog w = .ok (.agg #[.string q.says, .string q.pred, .int .i64 q.n, .bool q.t0.v, .string q.t0.name, .bool q.t1.v, .string q.t1.name, .bool q.t2.v, .string q.t2.name, .bool q.t3.v, .string q.t3.name]) w :=
  run_loadVar_row w g 30 30 _ (0, 0) _ h Tryd.underlying30 rfl (by kernel_rfl)
theorem results_atom {fn : Func} {p : Tmp} (h : fn.results = #[.cell p 30]) (tmps : Array Value) (w : World) (g : Nat) (q : AtomD) (hp : tmps.getD p undef = .pointer (some ⟨g, 0, none⟩)) (hg : AtomAt w g q) :
    (results fn tmps).run Tryd.prog w = .ok (.agg #[.string q.says, .string q.pred, .int .i64 q.n, .bool q.t0.v, .string q.t0.name, .bool q.t1.v, .string q.t1.name, .bool q.t2.v, .string q.t2.name, .bool q.t3.v, .string q.t3.name]) w :=
  results_cell_row h tmps w g 30 _ (0, 0) _ hp hg Tryd.underlying30 rfl (by kernel_rfl)
theorem results_atom2 {fn : Func} {p u : Tmp} (h : fn.results = #[.cell p 30, .tmp u]) (tmps : Array Value) (w : World) (g : Nat) (q : AtomD) (hp : tmps.getD p undef = .pointer (some ⟨g, 0, none⟩)) (hg : AtomAt w g q) :
    (results fn tmps).run Tryd.prog w = .ok (.tuple #[.agg #[.string q.says, .string q.pred, .int .i64 q.n, .bool q.t0.v, .string q.t0.name, .bool q.t1.v, .string q.t1.name, .bool q.t2.v, .string q.t2.name, .bool q.t3.v, .string q.t3.name], tmps.getD u undef]) w := by
  rw [results_cell_tmp h, hp]
  simp [asAddr, load_atom hg, Result.andThen]
theorem wpList_store_atom {ops : Array Oper} {rest : List Oper} {o : Oper} {a : Act} {w : World} {Q : Exit → Act → World → Prop} (hgd : o.guard = none) (x y : Operand) (ho : o.op = .store 30 x y) (g : Nat) (q : AtomD)
    (hx : a.eval x = .pointer (some ⟨g, 0, none⟩)) (hy : a.eval y = .agg #[.string q.says, .string q.pred, .int .i64 q.n, .bool q.t0.v, .string q.t0.name, .bool q.t1.v, .string q.t1.name, .bool q.t2.v, .string q.t2.name, .bool q.t3.v, .string q.t3.name]) {a0 : AtomD} (hg : AtomAt w g a0)
    (h : ∀ w', AtomAt w' g q → Below g w w' → (∀ k, k ≠ g → w'.heap[k]? = w.heap[k]?) → wpList Tryd.prog ops Q rest (a.put o.dst undef) w') : wpList Tryd.prog ops Q (o :: rest) a w := by
  obtain ⟨w3, hst, h1, h2, h3⟩ := store_atom hg q
  refine wpList_plain hgd fun _ hK => ?_
  unfold Oper.wp execOp
  simp only [ho, hx, hy, Instr.storeAt, Instr.sureAddr, Sem.run_bind, Sem.run_pure, Result.andThen_ok, hst]
  exact hK _ _ (h w3 h1 h2 h3)

end Go.Proofs.YtkcnbdlhggoojaaDoor
