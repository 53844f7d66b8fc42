/-
  A list of atoms that came in, opened. No condition.
-/
import Derived.Test.YtamghlneoglfnaaOpenT
import Derived.Test.YtamghlneoglfnaaAtA
namespace Go.Proofs.Ytamghlneoglfnaa
open Go.RowKit Go.WideShapes Go.ChangeShapes Go.ChangeAt

section
variable {H : Type} {enc : TypeId × Value → H} {W : World} {base : Nat} {sp : Nat → Bool} {held : Bool} {fuel : Nat}
theorem atom_eleven {c0 c1 c2 c3 c4 c5 c6 c7 c8 c9 c10 : Value} {x : DataW H × List MemPlace} (hf : DataW.trod enc Try.prog W base sp held fuel 27 [c0, c1, c2, c3, c4, c5, c6, c7, c8, c9, c10] = some x) :
    ∃ a : AtomD, [c0, c1, c2, c3, c4, c5, c6, c7, c8, c9, c10] = encA a ∧ AtomOk a := by
  obtain ⟨ys, n2, _, _, _, hyl, hfd⟩ := DataW.trod_struct Try.underlying27 hf
  have hyl4 : ys.length = 4 := hyl
  match ys, hyl4 with
  | [y0, y1, y2, y3], _ =>
    have h0 := hfd 0 _ rfl
    have h1 := hfd 1 _ rfl
    have h2 := hfd 2 _ rfl
    have h3 := hfd 3 _ rfl
    obtain ⟨s, e0, _, w0⟩ := DataW.trod_string Try.underlying9 h0
    obtain ⟨p, e1, _, w1⟩ := DataW.trod_string Try.underlying9 h1
    obtain ⟨n, e2, _, w2⟩ := DataW.trod_int Try.underlying3 h2
    simp [cells_tstr] at e0 e1
    simp [cells_tint] at e2
    obtain ⟨zs, m, _, _, _, hzl, hz⟩ := DataW.trod_array Try.underlying25 h3
    simp only [cells_Term] at hz
    match zs, hzl with
    | [z0, z1, z2, z3], _ =>
      have k0 := hz 0 (by omega)
      have k1 := hz 1 (by omega)
      have k2 := hz 2 (by omega)
      have k3 := hz 3 (by omega)
      simp [cells_4T] at k0 k1 k2 k3
      obtain ⟨t0, rfl, rfl, g0⟩ := term_two k0
      obtain ⟨t1, rfl, rfl, g1⟩ := term_two k1
      obtain ⟨t2, rfl, rfl, g2⟩ := term_two k2
      obtain ⟨t3, rfl, rfl, g3⟩ := term_two k3
      subst e0 e1 e2
      exact ⟨⟨s, p, n, t0, t1, t2, t3⟩, rfl, ⟨by unfold maxLen at w0; exact w0, by unfold maxLen at w1; exact w1, by simpa [Lit.wf, IntKind.min, IntKind.max, IntKind.signed, IntKind.bits] using w2, g0, g1, g2, g3⟩⟩
set_option maxRecDepth 100000 in
theorem atoms_open {v : Value} {d : DataW H} {ps : List MemPlace} (hv : Value.okWide Try.prog W .any base 29 v) (h : DataW.Trod enc Try.prog W 0 (fun _ => true) true 29 v d ps) :
    ∃ (A : Option Addr) (ca : Nat) (xs : List AtomD), v = .slice A xs.length ca ∧ AL W A ca xs ∧ (∀ x ∈ xs, AtomOk x) ∧ xs.length ≤ 9223372036854775807 := by
  obtain ⟨A, n, ca, rfl⟩ := okWide_slice Try.underlying29 hv
  obtain ⟨fuel, hf⟩ := h
  rcases Go.Deep.open_slice Try.underlying29 hf with ⟨hcs, _⟩ | ⟨a, len, cap, m, n', D, Pl, hcs, _, hl, hm, hmm, _, hi⟩
  · simp [Value.cells] at hcs
    obtain ⟨rfl, rfl, rfl⟩ := hcs
    exact ⟨none, 0, [], rfl, SliceAt.mkNil W, fun s hs => (by cases hs), Nat.zero_le _⟩
  · simp [Value.cells] at hcs
    obtain ⟨rfl, rfl, rfl⟩ := hcs
    rw [if_pos rfl] at hmm
    subst hmm
    have each : ∀ i, i < m → ∃ b : AtomD, AtomOk b ∧ ∀ j u, (encA b)[j]? = some u → W.cell? (a.add (i * 11 + j)) = some u := fun i him => by
      obtain ⟨cs, hc, ht⟩ := hi i him
      rw [cells_Atom] at hc
      obtain ⟨_, hcl, hat⟩ := World.cells?_some hc
      match cs, hcl with
      | [v0, v1, v2, v3, v4, v5, v6, v7, v8, v9, v10], _ =>
        obtain ⟨b, hb, hok⟩ := atom_eleven ht
        refine ⟨b, hok, fun j u hu => ?_⟩
        rw [← hb] at hu
        have hj : j < 11 := (List.getElem?_eq_some_iff.1 hu).1
        have := hat j (by omega)
        rw [Go.Deep.add_add] at this
        rw [this]
        exact hu
    have hex : ∃ f : Nat → AtomD, ∀ i, i < m → AtomOk (f i) ∧ ∀ j u, (encA (f i))[j]? = some u → W.cell? (a.add (i * 11 + j)) = some u :=
      ⟨fun i => if h : i < m then (each i h).choose else zeroA, fun i h => by simp only [dif_pos h]; exact (each i h).choose_spec⟩
    obtain ⟨f, hfi⟩ := hex
    have hspot : 0 < m → a = ⟨a.block, a.off, none⟩ := fun h0 => addT_cell (by simpa using (hfi 0 h0).2 0 _ rfl)
    refine ⟨some a, m, (List.range n).map f, by simp, ⟨fun j hj => ?_, by simpa using hl, (fun h => by cases h), fun a' e h0 => ?_⟩, fun x hx => ?_, by simp; unfold maxLen at hm; omega⟩
    · have hjn : j < n := by simpa using hj
      have hc := (hfi j (by omega)).2
      have e1 := hspot (by omega)
      have ha : ∀ i, a.add i = ⟨a.block, a.off + i, none⟩ := fun i => by
        conv => lhs; rw [e1]
        exact addr_add _ _ _
      have c0 := hc 0 _ rfl
      rw [ha] at c0
      have hlt : a.block < W.heap.size := World.block_lt_of_cell? W (⟨a.block, a.off + (j * 11 + 0), none⟩ : Addr) c0
      refine ⟨a.block, a.off, by rw [← e1], hlt, fun i u hu => ?_⟩
      have hget : ((List.range n).map f)[j] = f j := by simp
      rw [hget] at hu
      have := hc i u hu
      rw [ha] at this
      rw [Nat.add_assoc]; exact this
    · injection e with e
      subst e
      exact ⟨_, _, hspot h0⟩
    · obtain ⟨j, hj, rfl⟩ := List.mem_map.1 hx
      exact (hfi j (by have := List.mem_range.1 hj; omega)).1
end
end Go.Proofs.Ytamghlneoglfnaa
