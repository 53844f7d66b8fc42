/-
  A store of an atom in a region that draws its order; two atoms that a region makes. Conditions: as each says.
-/
import Derived.Test.YtkcnbdlhggoojaaDoorUnF
import Derived.Deep.RegionLawGrows
namespace Go.Proofs.YtkcnbdlhggoojaaDoor
open Go.RowKit

theorem zerosF {a : AtomD} (h : checkD a = 0) : zerosB ((argsD a).drop (cntI a.n)) = true := (check_parts h).2.2.2
theorem step_store_atom {ops : Array Oper} {o : Oper} {a : Act} {w : World} {K : Act → World → Prop} {Q : Exit → Act → World → Prop} {E : Prop} (hgd : o.guard = none) (x y : Operand) (ho : o.op = .store 30 x y) (g : Nat) (q : AtomD)
    (hx : a.eval x = .pointer (some ⟨g, 0, none⟩)) (hy : a.eval y = .agg #[.string q.says, .string q.pred, .int .i64 q.n, .bool q.t0.v, .string q.t0.name, .bool q.t1.v, .string q.t1.name, .bool q.t2.v, .string q.t2.name, .bool q.t3.v, .string q.t3.name]) {a0 : AtomD} (hg : AtomAt w g a0)
    (h : ∀ w', AtomAt w' g q → Below g w w' → (∀ k, k ≠ g → w'.heap[k]? = w.heap[k]?) → K (a.put o.dst undef) w') :
    if Region.wanted o (yielded ops a.tmps) = true then Oper.wp Tryd.prog o a w K Q else E := by
  have hw : Region.wanted o (yielded ops a.tmps) = true := by simp [Region.wanted, hgd]
  rw [if_pos hw]
  obtain ⟨w3, hst, h1, h2, h3⟩ := store_atom hg q
  unfold Oper.wp execOp
  simp only [ho, hx, hy, Instr.storeAt, Instr.sureAddr, Sem.run_bind, Sem.run_pure, Result.andThen_ok, hst]
  exact h w3 h1 h2 h3
theorem AtomAt.new1 (w : World) : AtomAt ((w.alloc (.cells #[.string ⟨#[]⟩, .string ⟨#[]⟩, .int .i64 0, .bool false, .string ⟨#[]⟩, .bool false, .string ⟨#[]⟩, .bool false, .string ⟨#[]⟩, .bool false, .string ⟨#[]⟩] 30)).alloc (.cells #[.string ⟨#[]⟩, .string ⟨#[]⟩, .int .i64 0, .bool false, .string ⟨#[]⟩, .bool false, .string ⟨#[]⟩, .bool false, .string ⟨#[]⟩, .bool false, .string ⟨#[]⟩] 30)) (w.heap.size + 1) zeroA := by
  have : AtomAt ((w.alloc (.cells #[.string ⟨#[]⟩, .string ⟨#[]⟩, .int .i64 0, .bool false, .string ⟨#[]⟩, .bool false, .string ⟨#[]⟩, .bool false, .string ⟨#[]⟩, .bool false, .string ⟨#[]⟩] 30)).alloc (.cells #[.string ⟨#[]⟩, .string ⟨#[]⟩, .int .i64 0, .bool false, .string ⟨#[]⟩, .bool false, .string ⟨#[]⟩, .bool false, .string ⟨#[]⟩, .bool false, .string ⟨#[]⟩] 30)) (w.alloc (.cells #[.string ⟨#[]⟩, .string ⟨#[]⟩, .int .i64 0, .bool false, .string ⟨#[]⟩, .bool false, .string ⟨#[]⟩, .bool false, .string ⟨#[]⟩, .bool false, .string ⟨#[]⟩] 30)).heap.size zeroA := AtomAt.new (w.alloc (.cells #[.string ⟨#[]⟩, .string ⟨#[]⟩, .int .i64 0, .bool false, .string ⟨#[]⟩, .bool false, .string ⟨#[]⟩, .bool false, .string ⟨#[]⟩, .bool false, .string ⟨#[]⟩] 30)) zeroA
  rwa [show (w.alloc (.cells #[.string ⟨#[]⟩, .string ⟨#[]⟩, .int .i64 0, .bool false, .string ⟨#[]⟩, .bool false, .string ⟨#[]⟩, .bool false, .string ⟨#[]⟩, .bool false, .string ⟨#[]⟩] 30)).heap.size = w.heap.size + 1 by simp] at this
/-- two atoms that a region made, not yet written -/
structure TwoA (wr W : World) (g h : Nat) : Prop where
  fst : AtomAt W g zeroA
  snd : AtomAt W h zeroA
  ne : h ≠ g
  le1 : wr.heap.size ≤ g
  le2 : wr.heap.size ≤ h
  bel : Bel wr W
theorem TwoA.symm {wr W : World} {g h : Nat} (T : TwoA wr W g h) : TwoA wr W h g := ⟨T.snd, T.fst, T.ne.symm, T.le2, T.le1, T.bel⟩
theorem TwoA.one {wr W : World} {g : Nat} (H : Bel wr W) (h : AtomAt W g zeroA) (hl : wr.heap.size ≤ g) : TwoA wr (W.alloc (.cells #[.string ⟨#[]⟩, .string ⟨#[]⟩, .int .i64 0, .bool false, .string ⟨#[]⟩, .bool false, .string ⟨#[]⟩, .bool false, .string ⟨#[]⟩, .bool false, .string ⟨#[]⟩] 30)) g W.heap.size :=
  ⟨h.bel (bel_alloc _ _), AtomAt.new W zeroA, Nat.ne_of_gt h.lt, hl, H.size, H.trans' (bel_alloc _ _)⟩
theorem TwoA.zer {wr W : World} (H : Bel wr W) : TwoA wr ((W.alloc (.cells #[.string ⟨#[]⟩, .string ⟨#[]⟩, .int .i64 0, .bool false, .string ⟨#[]⟩, .bool false, .string ⟨#[]⟩, .bool false, .string ⟨#[]⟩, .bool false, .string ⟨#[]⟩] 30)).alloc (.cells #[.string ⟨#[]⟩, .string ⟨#[]⟩, .int .i64 0, .bool false, .string ⟨#[]⟩, .bool false, .string ⟨#[]⟩, .bool false, .string ⟨#[]⟩, .bool false, .string ⟨#[]⟩] 30)) W.heap.size (W.heap.size + 1) :=
  ⟨(AtomAt.new W zeroA).bel (bel_alloc _ _), AtomAt.new1 W, Nat.succ_ne_self _, H.size, Nat.le_succ_of_le H.size, (H.trans' (bel_alloc _ _)).trans' (bel_alloc _ _)⟩
theorem TwoA.one2 {wr W W' : World} {g : Nat} (H : Bel wr W) (h : AtomAt W g zeroA) (hl : wr.heap.size ≤ g) (hg : Bel (W.alloc (.cells #[.string ⟨#[]⟩, .string ⟨#[]⟩, .int .i64 0, .bool false, .string ⟨#[]⟩, .bool false, .string ⟨#[]⟩, .bool false, .string ⟨#[]⟩, .bool false, .string ⟨#[]⟩] 30)) W') (H' : Bel wr W') : TwoA wr W' g W.heap.size :=
  ⟨(h.bel (bel_alloc _ _)).bel hg, (AtomAt.new W zeroA).bel hg, Nat.ne_of_gt h.lt, hl, H.size, H'⟩
theorem TwoA.two {wr W W' : World} (H : Bel wr W) (hg : Bel ((W.alloc (.cells #[.string ⟨#[]⟩, .string ⟨#[]⟩, .int .i64 0, .bool false, .string ⟨#[]⟩, .bool false, .string ⟨#[]⟩, .bool false, .string ⟨#[]⟩, .bool false, .string ⟨#[]⟩] 30)).alloc (.cells #[.string ⟨#[]⟩, .string ⟨#[]⟩, .int .i64 0, .bool false, .string ⟨#[]⟩, .bool false, .string ⟨#[]⟩, .bool false, .string ⟨#[]⟩, .bool false, .string ⟨#[]⟩] 30)) W') (H' : Bel wr W') : TwoA wr W' W.heap.size (W.heap.size + 1) :=
  ⟨((AtomAt.new W zeroA).bel (bel_alloc _ _)).bel hg, (AtomAt.new1 W).bel hg, Nat.succ_ne_self _, H.size, Nat.le_succ_of_le H.size, H'⟩
theorem TwoA.stores {wr W : World} {g h : Nat} (T : TwoA wr W g h) (x y : AtomD) : ∃ w3 w4, (storeVar 30 ⟨g, 0, none⟩ (.agg #[.string x.says, .string x.pred, .int .i64 x.n, .bool x.t0.v, .string x.t0.name, .bool x.t1.v, .string x.t1.name, .bool x.t2.v, .string x.t2.name, .bool x.t3.v, .string x.t3.name])).run Tryd.prog W = .ok () w3 ∧ (storeVar 30 ⟨h, 0, none⟩ (.agg #[.string y.says, .string y.pred, .int .i64 y.n, .bool y.t0.v, .string y.t0.name, .bool y.t1.v, .string y.t1.name, .bool y.t2.v, .string y.t2.name, .bool y.t3.v, .string y.t3.name])).run Tryd.prog w3 = .ok () w4 ∧ AtomAt w4 g x ∧ AtomAt w4 h y ∧ Bel wr w4 ∧ Bel wr w3 := by
  obtain ⟨w3, s3, a3, b3, o3⟩ := store_atom T.fst x
  have h3 : AtomAt w3 h zeroA := (o3 h T.ne).trans T.snd
  obtain ⟨w4, s4, a4, b4, o4⟩ := store_atom h3 y
  have e3 : Bel wr w3 := Below.trans T.bel (b3.mono T.le1)
  exact ⟨w3, w4, s3, s4, (o4 g T.ne.symm).trans a3, a4, Below.trans e3 (b4.mono T.le2), e3⟩
theorem two_newA {wB w6 : World} (h : Bel wB w6) (x y : AtomD) : AtomAt ((w6.alloc (.cells #[.string x.says, .string x.pred, .int .i64 x.n, .bool x.t0.v, .string x.t0.name, .bool x.t1.v, .string x.t1.name, .bool x.t2.v, .string x.t2.name, .bool x.t3.v, .string x.t3.name] 30)).alloc (.cells #[.string y.says, .string y.pred, .int .i64 y.n, .bool y.t0.v, .string y.t0.name, .bool y.t1.v, .string y.t1.name, .bool y.t2.v, .string y.t2.name, .bool y.t3.v, .string y.t3.name] 30)) w6.heap.size x ∧ AtomAt ((w6.alloc (.cells #[.string x.says, .string x.pred, .int .i64 x.n, .bool x.t0.v, .string x.t0.name, .bool x.t1.v, .string x.t1.name, .bool x.t2.v, .string x.t2.name, .bool x.t3.v, .string x.t3.name] 30)).alloc (.cells #[.string y.says, .string y.pred, .int .i64 y.n, .bool y.t0.v, .string y.t0.name, .bool y.t1.v, .string y.t1.name, .bool y.t2.v, .string y.t2.name, .bool y.t3.v, .string y.t3.name] 30)) (w6.heap.size + 1) y ∧ Bel wB ((w6.alloc (.cells #[.string x.says, .string x.pred, .int .i64 x.n, .bool x.t0.v, .string x.t0.name, .bool x.t1.v, .string x.t1.name, .bool x.t2.v, .string x.t2.name, .bool x.t3.v, .string x.t3.name] 30)).alloc (.cells #[.string y.says, .string y.pred, .int .i64 y.n, .bool y.t0.v, .string y.t0.name, .bool y.t1.v, .string y.t1.name, .bool y.t2.v, .string y.t2.name, .bool y.t3.v, .string y.t3.name] 30)) := by
  have := AtomAt.new (w6.alloc (.cells #[.string x.says, .string x.pred, .int .i64 x.n, .bool x.t0.v, .string x.t0.name, .bool x.t1.v, .string x.t1.name, .bool x.t2.v, .string x.t2.name, .bool x.t3.v, .string x.t3.name] 30)) y
  rw [show (w6.alloc (.cells #[.string x.says, .string x.pred, .int .i64 x.n, .bool x.t0.v, .string x.t0.name, .bool x.t1.v, .string x.t1.name, .bool x.t2.v, .string x.t2.name, .bool x.t3.v, .string x.t3.name] 30)).heap.size = w6.heap.size + 1 by simp] at this
  exact ⟨(AtomAt.new w6 x).bel (bel_alloc _ _), this, (h.trans' (bel_alloc _ _)).trans' (bel_alloc _ _)⟩
theorem AtomAt.frozen {w : World} {b : Nat} {a : AtomD} (h : AtomAt w b a) (i : Nat) : w.frozen? ⟨b, i, none⟩ = false := by
  unfold AtomAt at h
  simp [World.frozen?, h]
theorem set_one {w : World} {b : Nat} {cs : Array Value} {e : TypeId} (h : w.heap[b]? = some (.cells cs e)) (o : Nat) (v : Value) : (w.setCell ⟨b, o, none⟩ v).heap[b]? = some (.cells (cs.setIfInBounds o v) e) ∧ Below b w (w.setCell ⟨b, o, none⟩ v) ∧ ∀ k, k ≠ b → (w.setCell ⟨b, o, none⟩ v).heap[k]? = w.heap[k]? := by
  have ho : ∀ k, k ≠ b → (w.setCell ⟨b, o, none⟩ v).heap[k]? = w.heap[k]? := fun k hk => by
    simp [World.setCell, Array.getElem?_modify, Ne.symm hk]
  refine ⟨?_, ⟨rfl, rfl, rfl, by simp, fun k hk => ho k (by omega)⟩, ho⟩
  simp [World.setCell, Array.getElem?_modify, h]
theorem set_two {w w1 w2 : World} {b : Nat} (h1 : Below b w w1 ∧ ∀ k, k ≠ b → w1.heap[k]? = w.heap[k]?) (h2 : Below b w1 w2 ∧ ∀ k, k ≠ b → w2.heap[k]? = w1.heap[k]?) : Below b w w2 ∧ ∀ k, k ≠ b → w2.heap[k]? = w.heap[k]? := ⟨Below.trans h1.1 h2.1, fun k hk => (h2.2 k hk).trans (h1.2 k hk)⟩
theorem set_atom {w : World} {b : Nat} {a0 : AtomD} (h : AtomAt w b a0) (x : AtomD) : AtomAt (((((((((((w.setCell ⟨b, 0, none⟩ (.string x.says)).setCell ⟨b, 1, none⟩ (.string x.pred)).setCell ⟨b, 2, none⟩ (.int .i64 x.n)).setCell ⟨b, 3, none⟩ (.bool x.t0.v)).setCell ⟨b, 4, none⟩ (.string x.t0.name)).setCell ⟨b, 5, none⟩ (.bool x.t1.v)).setCell ⟨b, 6, none⟩ (.string x.t1.name)).setCell ⟨b, 7, none⟩ (.bool x.t2.v)).setCell ⟨b, 8, none⟩ (.string x.t2.name)).setCell ⟨b, 9, none⟩ (.bool x.t3.v)).setCell ⟨b, 10, none⟩ (.string x.t3.name)) b x ∧ Below b w (((((((((((w.setCell ⟨b, 0, none⟩ (.string x.says)).setCell ⟨b, 1, none⟩ (.string x.pred)).setCell ⟨b, 2, none⟩ (.int .i64 x.n)).setCell ⟨b, 3, none⟩ (.bool x.t0.v)).setCell ⟨b, 4, none⟩ (.string x.t0.name)).setCell ⟨b, 5, none⟩ (.bool x.t1.v)).setCell ⟨b, 6, none⟩ (.string x.t1.name)).setCell ⟨b, 7, none⟩ (.bool x.t2.v)).setCell ⟨b, 8, none⟩ (.string x.t2.name)).setCell ⟨b, 9, none⟩ (.bool x.t3.v)).setCell ⟨b, 10, none⟩ (.string x.t3.name)) ∧ ∀ k, k ≠ b → (((((((((((w.setCell ⟨b, 0, none⟩ (.string x.says)).setCell ⟨b, 1, none⟩ (.string x.pred)).setCell ⟨b, 2, none⟩ (.int .i64 x.n)).setCell ⟨b, 3, none⟩ (.bool x.t0.v)).setCell ⟨b, 4, none⟩ (.string x.t0.name)).setCell ⟨b, 5, none⟩ (.bool x.t1.v)).setCell ⟨b, 6, none⟩ (.string x.t1.name)).setCell ⟨b, 7, none⟩ (.bool x.t2.v)).setCell ⟨b, 8, none⟩ (.string x.t2.name)).setCell ⟨b, 9, none⟩ (.bool x.t3.v)).setCell ⟨b, 10, none⟩ (.string x.t3.name)).heap[k]? = w.heap[k]? := by
  unfold AtomAt at h
  have s0 := set_one h 0 (.string x.says)
  have s1 := set_one s0.1 1 (.string x.pred)
  have s2 := set_one s1.1 2 (.int .i64 x.n)
  have s3 := set_one s2.1 3 (.bool x.t0.v)
  have s4 := set_one s3.1 4 (.string x.t0.name)
  have s5 := set_one s4.1 5 (.bool x.t1.v)
  have s6 := set_one s5.1 6 (.string x.t1.name)
  have s7 := set_one s6.1 7 (.bool x.t2.v)
  have s8 := set_one s7.1 8 (.string x.t2.name)
  have s9 := set_one s8.1 9 (.bool x.t3.v)
  have s10 := set_one s9.1 10 (.string x.t3.name)
  have r0 := s0.2
  have r1 := set_two r0 s1.2
  have r2 := set_two r1 s2.2
  have r3 := set_two r2 s3.2
  have r4 := set_two r3 s4.2
  have r5 := set_two r4 s5.2
  have r6 := set_two r5 s6.2
  have r7 := set_two r6 s7.2
  have r8 := set_two r7 s8.2
  have r9 := set_two r8 s9.2
  have r10 := set_two r9 s10.2
  refine ⟨s10.1.trans ?_, r10.1, r10.2⟩
  simp only [List.setIfInBounds_toArray, List.set_cons_zero, List.set_cons_succ]
theorem set_newA {wB w6 : World} (h : Bel wB w6) {b : Nat} {z : AtomD} (hz : AtomAt w6 b z) (hb : wB.heap.size ≤ b) (x y : AtomD) : AtomAt ((((((((((((w6.setCell ⟨b, 0, none⟩ (.string x.says)).setCell ⟨b, 1, none⟩ (.string x.pred)).setCell ⟨b, 2, none⟩ (.int .i64 x.n)).setCell ⟨b, 3, none⟩ (.bool x.t0.v)).setCell ⟨b, 4, none⟩ (.string x.t0.name)).setCell ⟨b, 5, none⟩ (.bool x.t1.v)).setCell ⟨b, 6, none⟩ (.string x.t1.name)).setCell ⟨b, 7, none⟩ (.bool x.t2.v)).setCell ⟨b, 8, none⟩ (.string x.t2.name)).setCell ⟨b, 9, none⟩ (.bool x.t3.v)).setCell ⟨b, 10, none⟩ (.string x.t3.name)).alloc (.cells #[.string y.says, .string y.pred, .int .i64 y.n, .bool y.t0.v, .string y.t0.name, .bool y.t1.v, .string y.t1.name, .bool y.t2.v, .string y.t2.name, .bool y.t3.v, .string y.t3.name] 30)) b x ∧ AtomAt ((((((((((((w6.setCell ⟨b, 0, none⟩ (.string x.says)).setCell ⟨b, 1, none⟩ (.string x.pred)).setCell ⟨b, 2, none⟩ (.int .i64 x.n)).setCell ⟨b, 3, none⟩ (.bool x.t0.v)).setCell ⟨b, 4, none⟩ (.string x.t0.name)).setCell ⟨b, 5, none⟩ (.bool x.t1.v)).setCell ⟨b, 6, none⟩ (.string x.t1.name)).setCell ⟨b, 7, none⟩ (.bool x.t2.v)).setCell ⟨b, 8, none⟩ (.string x.t2.name)).setCell ⟨b, 9, none⟩ (.bool x.t3.v)).setCell ⟨b, 10, none⟩ (.string x.t3.name)).alloc (.cells #[.string y.says, .string y.pred, .int .i64 y.n, .bool y.t0.v, .string y.t0.name, .bool y.t1.v, .string y.t1.name, .bool y.t2.v, .string y.t2.name, .bool y.t3.v, .string y.t3.name] 30)) w6.heap.size y ∧ Bel wB ((((((((((((w6.setCell ⟨b, 0, none⟩ (.string x.says)).setCell ⟨b, 1, none⟩ (.string x.pred)).setCell ⟨b, 2, none⟩ (.int .i64 x.n)).setCell ⟨b, 3, none⟩ (.bool x.t0.v)).setCell ⟨b, 4, none⟩ (.string x.t0.name)).setCell ⟨b, 5, none⟩ (.bool x.t1.v)).setCell ⟨b, 6, none⟩ (.string x.t1.name)).setCell ⟨b, 7, none⟩ (.bool x.t2.v)).setCell ⟨b, 8, none⟩ (.string x.t2.name)).setCell ⟨b, 9, none⟩ (.bool x.t3.v)).setCell ⟨b, 10, none⟩ (.string x.t3.name)).alloc (.cells #[.string y.says, .string y.pred, .int .i64 y.n, .bool y.t0.v, .string y.t0.name, .bool y.t1.v, .string y.t1.name, .bool y.t2.v, .string y.t2.name, .bool y.t3.v, .string y.t3.name] 30)) ∧ Bel wB (((((((((((w6.setCell ⟨b, 0, none⟩ (.string x.says)).setCell ⟨b, 1, none⟩ (.string x.pred)).setCell ⟨b, 2, none⟩ (.int .i64 x.n)).setCell ⟨b, 3, none⟩ (.bool x.t0.v)).setCell ⟨b, 4, none⟩ (.string x.t0.name)).setCell ⟨b, 5, none⟩ (.bool x.t1.v)).setCell ⟨b, 6, none⟩ (.string x.t1.name)).setCell ⟨b, 7, none⟩ (.bool x.t2.v)).setCell ⟨b, 8, none⟩ (.string x.t2.name)).setCell ⟨b, 9, none⟩ (.bool x.t3.v)).setCell ⟨b, 10, none⟩ (.string x.t3.name)) := by
  obtain ⟨h1, h2, _⟩ := set_atom hz x
  have h3 : Bel wB (((((((((((w6.setCell ⟨b, 0, none⟩ (.string x.says)).setCell ⟨b, 1, none⟩ (.string x.pred)).setCell ⟨b, 2, none⟩ (.int .i64 x.n)).setCell ⟨b, 3, none⟩ (.bool x.t0.v)).setCell ⟨b, 4, none⟩ (.string x.t0.name)).setCell ⟨b, 5, none⟩ (.bool x.t1.v)).setCell ⟨b, 6, none⟩ (.string x.t1.name)).setCell ⟨b, 7, none⟩ (.bool x.t2.v)).setCell ⟨b, 8, none⟩ (.string x.t2.name)).setCell ⟨b, 9, none⟩ (.bool x.t3.v)).setCell ⟨b, 10, none⟩ (.string x.t3.name)) := Below.trans h (h2.mono hb)
  have := AtomAt.new (((((((((((w6.setCell ⟨b, 0, none⟩ (.string x.says)).setCell ⟨b, 1, none⟩ (.string x.pred)).setCell ⟨b, 2, none⟩ (.int .i64 x.n)).setCell ⟨b, 3, none⟩ (.bool x.t0.v)).setCell ⟨b, 4, none⟩ (.string x.t0.name)).setCell ⟨b, 5, none⟩ (.bool x.t1.v)).setCell ⟨b, 6, none⟩ (.string x.t1.name)).setCell ⟨b, 7, none⟩ (.bool x.t2.v)).setCell ⟨b, 8, none⟩ (.string x.t2.name)).setCell ⟨b, 9, none⟩ (.bool x.t3.v)).setCell ⟨b, 10, none⟩ (.string x.t3.name)) y
  rw [show (((((((((((w6.setCell ⟨b, 0, none⟩ (.string x.says)).setCell ⟨b, 1, none⟩ (.string x.pred)).setCell ⟨b, 2, none⟩ (.int .i64 x.n)).setCell ⟨b, 3, none⟩ (.bool x.t0.v)).setCell ⟨b, 4, none⟩ (.string x.t0.name)).setCell ⟨b, 5, none⟩ (.bool x.t1.v)).setCell ⟨b, 6, none⟩ (.string x.t1.name)).setCell ⟨b, 7, none⟩ (.bool x.t2.v)).setCell ⟨b, 8, none⟩ (.string x.t2.name)).setCell ⟨b, 9, none⟩ (.bool x.t3.v)).setCell ⟨b, 10, none⟩ (.string x.t3.name)).heap.size = w6.heap.size by simp] at this
  exact ⟨h1.bel (bel_alloc _ _), this, h3.trans' (bel_alloc _ _), h3⟩
theorem set_setA {wB w6 : World} (h : Bel wB w6) {b d : Nat} {z y0 : AtomD} (hz : AtomAt w6 b z) (hy : AtomAt w6 d y0) (hb : wB.heap.size ≤ b) (hd : wB.heap.size ≤ d) (hne : d ≠ b) (x y : AtomD) : AtomAt ((((((((((((((((((((((w6.setCell ⟨b, 0, none⟩ (.string x.says)).setCell ⟨b, 1, none⟩ (.string x.pred)).setCell ⟨b, 2, none⟩ (.int .i64 x.n)).setCell ⟨b, 3, none⟩ (.bool x.t0.v)).setCell ⟨b, 4, none⟩ (.string x.t0.name)).setCell ⟨b, 5, none⟩ (.bool x.t1.v)).setCell ⟨b, 6, none⟩ (.string x.t1.name)).setCell ⟨b, 7, none⟩ (.bool x.t2.v)).setCell ⟨b, 8, none⟩ (.string x.t2.name)).setCell ⟨b, 9, none⟩ (.bool x.t3.v)).setCell ⟨b, 10, none⟩ (.string x.t3.name)).setCell ⟨d, 0, none⟩ (.string y.says)).setCell ⟨d, 1, none⟩ (.string y.pred)).setCell ⟨d, 2, none⟩ (.int .i64 y.n)).setCell ⟨d, 3, none⟩ (.bool y.t0.v)).setCell ⟨d, 4, none⟩ (.string y.t0.name)).setCell ⟨d, 5, none⟩ (.bool y.t1.v)).setCell ⟨d, 6, none⟩ (.string y.t1.name)).setCell ⟨d, 7, none⟩ (.bool y.t2.v)).setCell ⟨d, 8, none⟩ (.string y.t2.name)).setCell ⟨d, 9, none⟩ (.bool y.t3.v)).setCell ⟨d, 10, none⟩ (.string y.t3.name)) b x ∧ AtomAt ((((((((((((((((((((((w6.setCell ⟨b, 0, none⟩ (.string x.says)).setCell ⟨b, 1, none⟩ (.string x.pred)).setCell ⟨b, 2, none⟩ (.int .i64 x.n)).setCell ⟨b, 3, none⟩ (.bool x.t0.v)).setCell ⟨b, 4, none⟩ (.string x.t0.name)).setCell ⟨b, 5, none⟩ (.bool x.t1.v)).setCell ⟨b, 6, none⟩ (.string x.t1.name)).setCell ⟨b, 7, none⟩ (.bool x.t2.v)).setCell ⟨b, 8, none⟩ (.string x.t2.name)).setCell ⟨b, 9, none⟩ (.bool x.t3.v)).setCell ⟨b, 10, none⟩ (.string x.t3.name)).setCell ⟨d, 0, none⟩ (.string y.says)).setCell ⟨d, 1, none⟩ (.string y.pred)).setCell ⟨d, 2, none⟩ (.int .i64 y.n)).setCell ⟨d, 3, none⟩ (.bool y.t0.v)).setCell ⟨d, 4, none⟩ (.string y.t0.name)).setCell ⟨d, 5, none⟩ (.bool y.t1.v)).setCell ⟨d, 6, none⟩ (.string y.t1.name)).setCell ⟨d, 7, none⟩ (.bool y.t2.v)).setCell ⟨d, 8, none⟩ (.string y.t2.name)).setCell ⟨d, 9, none⟩ (.bool y.t3.v)).setCell ⟨d, 10, none⟩ (.string y.t3.name)) d y ∧ Bel wB ((((((((((((((((((((((w6.setCell ⟨b, 0, none⟩ (.string x.says)).setCell ⟨b, 1, none⟩ (.string x.pred)).setCell ⟨b, 2, none⟩ (.int .i64 x.n)).setCell ⟨b, 3, none⟩ (.bool x.t0.v)).setCell ⟨b, 4, none⟩ (.string x.t0.name)).setCell ⟨b, 5, none⟩ (.bool x.t1.v)).setCell ⟨b, 6, none⟩ (.string x.t1.name)).setCell ⟨b, 7, none⟩ (.bool x.t2.v)).setCell ⟨b, 8, none⟩ (.string x.t2.name)).setCell ⟨b, 9, none⟩ (.bool x.t3.v)).setCell ⟨b, 10, none⟩ (.string x.t3.name)).setCell ⟨d, 0, none⟩ (.string y.says)).setCell ⟨d, 1, none⟩ (.string y.pred)).setCell ⟨d, 2, none⟩ (.int .i64 y.n)).setCell ⟨d, 3, none⟩ (.bool y.t0.v)).setCell ⟨d, 4, none⟩ (.string y.t0.name)).setCell ⟨d, 5, none⟩ (.bool y.t1.v)).setCell ⟨d, 6, none⟩ (.string y.t1.name)).setCell ⟨d, 7, none⟩ (.bool y.t2.v)).setCell ⟨d, 8, none⟩ (.string y.t2.name)).setCell ⟨d, 9, none⟩ (.bool y.t3.v)).setCell ⟨d, 10, none⟩ (.string y.t3.name)) ∧ Bel wB (((((((((((w6.setCell ⟨b, 0, none⟩ (.string x.says)).setCell ⟨b, 1, none⟩ (.string x.pred)).setCell ⟨b, 2, none⟩ (.int .i64 x.n)).setCell ⟨b, 3, none⟩ (.bool x.t0.v)).setCell ⟨b, 4, none⟩ (.string x.t0.name)).setCell ⟨b, 5, none⟩ (.bool x.t1.v)).setCell ⟨b, 6, none⟩ (.string x.t1.name)).setCell ⟨b, 7, none⟩ (.bool x.t2.v)).setCell ⟨b, 8, none⟩ (.string x.t2.name)).setCell ⟨b, 9, none⟩ (.bool x.t3.v)).setCell ⟨b, 10, none⟩ (.string x.t3.name)) := by
  obtain ⟨h1, h2, h3⟩ := set_atom hz x
  obtain ⟨k1, k2, k3⟩ := set_atom (w := (((((((((((w6.setCell ⟨b, 0, none⟩ (.string x.says)).setCell ⟨b, 1, none⟩ (.string x.pred)).setCell ⟨b, 2, none⟩ (.int .i64 x.n)).setCell ⟨b, 3, none⟩ (.bool x.t0.v)).setCell ⟨b, 4, none⟩ (.string x.t0.name)).setCell ⟨b, 5, none⟩ (.bool x.t1.v)).setCell ⟨b, 6, none⟩ (.string x.t1.name)).setCell ⟨b, 7, none⟩ (.bool x.t2.v)).setCell ⟨b, 8, none⟩ (.string x.t2.name)).setCell ⟨b, 9, none⟩ (.bool x.t3.v)).setCell ⟨b, 10, none⟩ (.string x.t3.name))) ((h3 d hne).trans hy) y
  have h4 : Bel wB (((((((((((w6.setCell ⟨b, 0, none⟩ (.string x.says)).setCell ⟨b, 1, none⟩ (.string x.pred)).setCell ⟨b, 2, none⟩ (.int .i64 x.n)).setCell ⟨b, 3, none⟩ (.bool x.t0.v)).setCell ⟨b, 4, none⟩ (.string x.t0.name)).setCell ⟨b, 5, none⟩ (.bool x.t1.v)).setCell ⟨b, 6, none⟩ (.string x.t1.name)).setCell ⟨b, 7, none⟩ (.bool x.t2.v)).setCell ⟨b, 8, none⟩ (.string x.t2.name)).setCell ⟨b, 9, none⟩ (.bool x.t3.v)).setCell ⟨b, 10, none⟩ (.string x.t3.name)) := Below.trans h (h2.mono hb)
  exact ⟨(k3 b hne.symm).trans h1, k1, Below.trans h4 (k2.mono hd), h4⟩
/-- the first is written -/
structure TwoB (wr W : World) (g h : Nat) (x : AtomD) : Prop where
  fst : AtomAt W g x
  snd : AtomAt W h zeroA
  ne : h ≠ g
  le2 : wr.heap.size ≤ h
  bel : Bel wr W
theorem TwoA.next {wr W w' : World} {g h : Nat} {x : AtomD} (T : TwoA wr W g h) (hx : AtomAt w' g x) (hb : Below g W w') (ho : ∀ k, k ≠ g → w'.heap[k]? = W.heap[k]?) : TwoB wr w' g h x :=
  ⟨hx, (ho h T.ne).trans T.snd, T.ne, T.le2, Below.trans T.bel (hb.mono T.le1)⟩
theorem TwoB.last {wr W w' : World} {g h : Nat} {x y : AtomD} (T : TwoB wr W g h x) (hy : AtomAt w' h y) (hb : Below h W w') (ho : ∀ k, k ≠ h → w'.heap[k]? = W.heap[k]?) : AtomAt w' g x ∧ AtomAt w' h y ∧ Bel wr w' :=
  ⟨(ho g T.ne.symm).trans T.fst, hy, Below.trans T.bel (hb.mono T.le2)⟩
theorem cutL2 {T G : Prop} (hm : T → G) (hk : T) : G := hm hk
/-- what stands when both calls and both blocks of such a region are done -/
structure RegA (wr W : World) (p q : Nat) (a b : AtomD) (g h : Nat) (u v u0 v0 : AtomD) : Prop where
  two : TwoA wr W g h
  fa : AtomAt W p a
  fb : AtomAt W q b
  eu : u = u0
  ev : v = v0
end Go.Proofs.YtkcnbdlhggoojaaDoor
