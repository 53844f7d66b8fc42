/-
  Terms, atoms and lists of terms that came in, opened. No condition.
-/
import Derived.Test.YtamghlneoglfnaaBase
import Derived.Test.YtamghlneoglfnaaTgC
import Derived.Deep.Slices
import Derived.ChangeArms
import Derived.OpenShut
namespace Go.Proofs.Ytamghlneoglfnaa
open Go.RowKit Go.WideShapes Go.ChangeShapes Go.ChangeAt

theorem cells_Term : Try.prog.cellsOf 24 = 2 := by kernel_rfl
theorem cells_Atom : Try.prog.cellsOf 27 = 11 := by kernel_rfl
theorem cells_4T : Try.prog.cellsOf 25 = 8 := by kernel_rfl
theorem cells_tint : Try.prog.cellsOf 3 = 1 := by kernel_rfl
theorem cells_tstr : Try.prog.cellsOf 9 = 1 := by kernel_rfl
theorem cells_tbool : Try.prog.cellsOf 4 = 1 := by kernel_rfl
theorem addT_cell {w : World} {a : Addr} {v : Value} (h : w.cell? (a.add 0) = some v) : a = ⟨a.block, a.off, none⟩ := by
  obtain ⟨b, o, s⟩ := a
  cases s with
  | none => rfl
  | some x =>
    exfalso
    unfold Addr.add World.cell? at h
    rw [if_pos rfl] at h
    split at h <;> simp_all
section
variable {H : Type} {enc : TypeId × Value → H} {W : World} {base : Nat} {sp : Nat → Bool} {held : Bool} {fuel : Nat}
theorem term_two {c0 c1 : Value} {x : DataW H × List MemPlace} (h : DataW.trod enc Try.prog W base sp held fuel 24 [c0, c1] = some x) : ∃ t : TermD, c0 = .bool t.v ∧ c1 = .string t.name ∧ t.name.size ≤ 9223372036854775807 := by
  obtain ⟨ys, n2, _, _, _, hyl, hfd⟩ := DataW.trod_struct Try.underlying24 h
  have hyl2 : ys.length = 2 := hyl
  match ys, hyl2 with
  | [y0, y1], _ =>
    have h0 := hfd 0 _ rfl
    have h1 := hfd 1 _ rfl
    obtain ⟨b, e0, _⟩ := DataW.trod_bool Try.underlying4 h0
    obtain ⟨s, e1, _, w1⟩ := DataW.trod_string Try.underlying9 h1
    simp [cells_tbool] at e0
    simp [cells_tstr] at e1
    exact ⟨⟨b, s⟩, e0, e1, by unfold maxLen at w1; exact w1⟩
set_option maxRecDepth 100000 in
theorem term_open {v : Value} {d : DataW H} {ps : List MemPlace} (hv : Value.okWide Try.prog W .any base 24 v) (h : DataW.Trod enc Try.prog W 0 (fun _ => true) true 24 v d ps) :
    ∃ t : TermD, v = .agg #[.bool t.v, .string t.name] ∧ t.name.size ≤ 9223372036854775807 := by
  obtain ⟨cs, rfl, hsz⟩ := okWide_struct Try.underlying24 hv
  obtain ⟨l⟩ := cs
  match l, hsz.trans cells_Term with
  | [c0, c1], _ =>
    obtain ⟨fuel, hf⟩ := h
    obtain ⟨t, rfl, rfl, ht⟩ := term_two hf
    exact ⟨t, rfl, ht⟩
set_option maxRecDepth 100000 in
theorem atom_open {v : Value} {d : DataW H} {ps : List MemPlace} (hv : Value.okWide Try.prog W .any base 27 v) (h : DataW.Trod enc Try.prog W 0 (fun _ => true) true 27 v d ps) :
    ∃ a : AtomD, v = .agg #[.string a.says, .string a.pred, .int .i64 a.n, .bool a.t0.v, .string a.t0.name, .bool a.t1.v, .string a.t1.name, .bool a.t2.v, .string a.t2.name, .bool a.t3.v, .string a.t3.name] ∧ AtomOk a := by
  obtain ⟨cs, rfl, hsz⟩ := okWide_struct Try.underlying27 hv
  obtain ⟨l⟩ := cs
  match l, hsz.trans cells_Atom with
  | [c0, c1, c2, c3, c4, c5, c6, c7, c8, c9, c10], _ =>
    obtain ⟨fuel, hf⟩ := h
    obtain ⟨ys, n2, _, _, _, hyl, hfd⟩ := DataW.trod_struct Try.underlying27 hf
    have hyl4 : ys.length = 4 := hyl
    match ys, hyl4 with
    | [y0, y1, y2, y3], _ =>
      have h0 := hfd 0 _ rfl
      have h1 := hfd 1 _ rfl
      have h2 := hfd 2 _ rfl
      have h3 := hfd 3 _ rfl
      obtain ⟨s, e0, _, w0⟩ := DataW.trod_string Try.underlying9 h0
      obtain ⟨p, e1, _, w1⟩ := DataW.trod_string Try.underlying9 h1
      obtain ⟨n, e2, _, w2⟩ := DataW.trod_int Try.underlying3 h2
      simp [cells_tstr, Value.cells] at e0 e1
      simp [cells_tint, Value.cells] at e2
      obtain ⟨zs, m, _, _, _, hzl, hz⟩ := DataW.trod_array Try.underlying25 h3
      simp only [cells_Term] at hz
      match zs, hzl with
      | [z0, z1, z2, z3], _ =>
        have k0 := hz 0 (by omega)
        have k1 := hz 1 (by omega)
        have k2 := hz 2 (by omega)
        have k3 := hz 3 (by omega)
        simp [cells_4T, Value.cells] at k0 k1 k2 k3
        obtain ⟨t0, rfl, rfl, g0⟩ := term_two k0
        obtain ⟨t1, rfl, rfl, g1⟩ := term_two k1
        obtain ⟨t2, rfl, rfl, g2⟩ := term_two k2
        obtain ⟨t3, rfl, rfl, g3⟩ := term_two k3
        subst e0 e1 e2
        exact ⟨⟨s, p, n, t0, t1, t2, t3⟩, rfl, ⟨by unfold maxLen at w0; exact w0, by unfold maxLen at w1; exact w1, by simpa [Lit.wf, IntKind.min, IntKind.max, IntKind.signed, IntKind.bits] using w2, g0, g1, g2, g3⟩⟩
end
end Go.Proofs.Ytamghlneoglfnaa
