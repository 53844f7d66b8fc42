/-
  Terms, atoms and lists of terms that came in, opened. No condition.
-/
import Derived.Test.YtobelhfhciafcaaDoorBase
import Derived.Test.YtobelhfhciafcaaDoorTmM
import Derived.Deep.Slices
import Derived.ChangeArms
import Derived.OpenShut
namespace Go.Proofs.YtobelhfhciafcaaDoor
open Go.RowKit Go.WideShapes Go.ChangeShapes Go.ChangeAt

theorem cells_Term : Tryd.prog.cellsOf 24 = 2 := by kernel_rfl
theorem cells_Atom : Tryd.prog.cellsOf 27 = 11 := by kernel_rfl
theorem cells_4T : Tryd.prog.cellsOf 25 = 8 := by kernel_rfl
theorem cells_tint : Tryd.prog.cellsOf 3 = 1 := by kernel_rfl
theorem cells_tstr : Tryd.prog.cellsOf 9 = 1 := by kernel_rfl
theorem cells_tbool : Tryd.prog.cellsOf 4 = 1 := by kernel_rfl
theorem addT_cell {w : World} {a : Addr} {v : Value} (h : w.cell? (a.add 0) = some v) : a = ⟨a.block, a.off, none⟩ := by
  obtain ⟨b, o, s⟩ := a
  cases s with
  | none => rfl
  | some x =>
    exfalso
    unfold Addr.add World.cell? at h
    rw [if_pos rfl] at h
    split at h <;> simp_all
section
variable {H : Type} {enc : TypeId × Value → H} {W : World} {base : Nat} {sp : Nat → Bool} {held : Bool} {fuel : Nat}
theorem term_two {c0 c1 : Value} {x : DataW H × List MemPlace} (h : DataW.trod enc Tryd.prog W base sp held fuel 24 [c0, c1] = some x) : ∃ t : TermD, c0 = .bool t.v ∧ c1 = .string t.name ∧ t.name.size ≤ 9223372036854775807 := by
  obtain ⟨ys, n2, _, _, _, hyl, hfd⟩ := DataW.trod_struct Tryd.underlying24 h
  have hyl2 : ys.length = 2 := hyl
  match ys, hyl2 with
  | [y0, y1], _ =>
    have h0 := hfd 0 _ rfl
    have h1 := hfd 1 _ rfl
    obtain ⟨b, e0, _⟩ := DataW.trod_bool Tryd.underlying4 h0
    obtain ⟨s, e1, _, w1⟩ := DataW.trod_string Tryd.underlying9 h1
    simp [cells_tbool] at e0
    simp [cells_tstr] at e1
    exact ⟨⟨b, s⟩, e0, e1, by unfold maxLen at w1; exact w1⟩
theorem term_open {v : Value} {d : DataW H} {ps : List MemPlace} (hv : Value.okWide Tryd.prog W .any base 24 v) (h : DataW.Trod enc Tryd.prog W 0 (fun _ => true) true 24 v d ps) :
    ∃ t : TermD, v = .agg #[.bool t.v, .string t.name] ∧ t.name.size ≤ 9223372036854775807 := by
  obtain ⟨cs, rfl, hsz⟩ := okWide_struct Tryd.underlying24 hv
  obtain ⟨l⟩ := cs
  match l, hsz.trans cells_Term with
  | [c0, c1], _ =>
    obtain ⟨fuel, hf⟩ := h
    obtain ⟨t, rfl, rfl, ht⟩ := term_two hf
    exact ⟨t, rfl, ht⟩
theorem atom_open {v : Value} {d : DataW H} {ps : List MemPlace} (hv : Value.okWide Tryd.prog W .any base 27 v) (h : DataW.Trod enc Tryd.prog W 0 (fun _ => true) true 27 v d ps) :
    ∃ a : AtomD, v = .agg #[.string a.says, .string a.pred, .int .i64 a.n, .bool a.t0.v, .string a.t0.name, .bool a.t1.v, .string a.t1.name, .bool a.t2.v, .string a.t2.name, .bool a.t3.v, .string a.t3.name] ∧ AtomOk a := by
  obtain ⟨cs, rfl, hsz⟩ := okWide_struct Tryd.underlying27 hv
  obtain ⟨l⟩ := cs
  match l, hsz.trans cells_Atom with
  | [c0, c1, c2, c3, c4, c5, c6, c7, c8, c9, c10], _ =>
    obtain ⟨fuel, hf⟩ := h
    obtain ⟨ys, n2, _, _, _, hyl, hfd⟩ := DataW.trod_struct Tryd.underlying27 hf
    have hyl4 : ys.length = 4 := hyl
    match ys, hyl4 with
    | [y0, y1, y2, y3], _ =>
      have h0 := hfd 0 _ rfl
      have h1 := hfd 1 _ rfl
      have h2 := hfd 2 _ rfl
      have h3 := hfd 3 _ rfl
      obtain ⟨s, e0, _, w0⟩ := DataW.trod_string Tryd.underlying9 h0
      obtain ⟨p, e1, _, w1⟩ := DataW.trod_string Tryd.underlying9 h1
      obtain ⟨n, e2, _, w2⟩ := DataW.trod_int Tryd.underlying3 h2
      simp [cells_tstr, Value.cells] at e0 e1
      simp [cells_tint, Value.cells] at e2
      obtain ⟨zs, m, _, _, _, hzl, hz⟩ := DataW.trod_array Tryd.underlying25 h3
      simp only [cells_Term] at hz
      match zs, hzl with
      | [z0, z1, z2, z3], _ =>
        have k0 := hz 0 (by omega)
        have k1 := hz 1 (by omega)
        have k2 := hz 2 (by omega)
        have k3 := hz 3 (by omega)
        simp [cells_4T, Value.cells] at k0 k1 k2 k3
        obtain ⟨t0, rfl, rfl, g0⟩ := term_two k0
        obtain ⟨t1, rfl, rfl, g1⟩ := term_two k1
        obtain ⟨t2, rfl, rfl, g2⟩ := term_two k2
        obtain ⟨t3, rfl, rfl, g3⟩ := term_two k3
        subst e0 e1 e2
        exact ⟨⟨s, p, n, t0, t1, t2, t3⟩, rfl, ⟨by unfold maxLen at w0; exact w0, by unfold maxLen at w1; exact w1, by simpa [Lit.wf, IntKind.min, IntKind.max, IntKind.signed, IntKind.bits] using w2, g0, g1, g2, g3⟩⟩
theorem terms_open {v : Value} {d : DataW H} {ps : List MemPlace} (hv : Value.okWide Tryd.prog W .any base 40 v) (h : DataW.Trod enc Tryd.prog W 0 (fun _ => true) true 40 v d ps) :
    ∃ (A : Option Addr) (ca : Nat) (xs : List TermD), v = .slice A xs.length ca ∧ TermsAt W A xs ∧ (∀ x ∈ xs, x.name.size ≤ 9223372036854775807) ∧ xs.length ≤ 9223372036854775807 ∧ (A = none → xs = [] ∧ ca = 0) ∧ xs.length ≤ ca := by
  obtain ⟨A, n, ca, rfl⟩ := okWide_slice Tryd.underlying40 hv
  obtain ⟨fuel, hf⟩ := h
  rcases Go.Deep.open_slice Tryd.underlying40 hf with ⟨hcs, _⟩ | ⟨a, len, cap, m, n', D, Pl, hcs, _, hl, hm, hmm, _, hi⟩
  · simp [Value.cells] at hcs
    obtain ⟨rfl, rfl, rfl⟩ := hcs
    exact ⟨none, 0, [], rfl, TermsAt.nil _ _, fun s hs => by simp at hs, by simp, fun _ => ⟨rfl, rfl⟩, by simp⟩
  · simp [Value.cells] at hcs
    obtain ⟨rfl, rfl, rfl⟩ := hcs
    rw [if_pos rfl] at hmm
    subst hmm
    have each : ∀ i, i < m → ∃ x : TermD, x.name.size ≤ 9223372036854775807 ∧ W.cell? (a.add (i * 2)) = some (.bool x.v) ∧ W.cell? (a.add (i * 2 + 1)) = some (.string x.name) := fun i him => by
      obtain ⟨cs, hc, ht⟩ := hi i him
      rw [cells_Term] at hc
      obtain ⟨_, hcl, hat⟩ := World.cells?_some hc
      match cs, hcl with
      | [v0, v1], _ =>
        obtain ⟨t, rfl, rfl, htz⟩ := term_two ht
        refine ⟨t, htz, ?_, ?_⟩
        · have := hat 0 (by omega); rw [Go.Deep.add_add] at this; simpa using this
        · have := hat 1 (by omega); rw [Go.Deep.add_add] at this; simpa using this
    have hex : ∃ f : Nat → TermD, ∀ i, i < m → (f i).name.size ≤ 9223372036854775807 ∧ W.cell? (a.add (i * 2)) = some (.bool (f i).v) ∧ W.cell? (a.add (i * 2 + 1)) = some (.string (f i).name) :=
      ⟨fun i => if h : i < m then (each i h).choose else zeroT, fun i h => by simp only [dif_pos h]; exact (each i h).choose_spec⟩
    obtain ⟨f, hfi⟩ := hex
    refine ⟨some a, m, (List.range n).map f, by simp, fun j hj => ?_, fun x hx => ?_, by simp; unfold maxLen at hm; omega, (fun h => by cases h), by simpa using hl⟩
    · have hjn : j < n := by simpa using hj
      obtain ⟨_, c0, c1⟩ := hfi j (by omega)
      have e1 := addT_cell (by simpa using (hfi 0 (by omega)).2.1)
      have ha : ∀ i, a.add i = ⟨a.block, a.off + i, none⟩ := fun i => by
        conv => lhs; rw [e1]
        exact addr_add _ _ _
      rw [ha] at c0 c1
      have hlt : a.block < W.heap.size := World.block_lt_of_cell? W (⟨a.block, a.off + j * 2, none⟩ : Addr) c0
      refine ⟨a.block, a.off, by rw [← e1], hlt, ?_, ?_⟩
      · rw [c0]; simp
      · rw [Nat.add_assoc, c1]; simp
    · obtain ⟨j, hj, rfl⟩ := List.mem_map.1 hx
      exact (hfi j (by have := List.mem_range.1 hj; omega)).1
end
end Go.Proofs.YtobelhfhciafcaaDoor
