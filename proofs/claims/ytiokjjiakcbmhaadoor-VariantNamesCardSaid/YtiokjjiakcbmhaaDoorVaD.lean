/-
  A list's canonical forms, each once: the walks of keys and Distinct. Conditions: as each says.
-/
import Derived.Test.YtiokjjiakcbmhaaDoorVaC
namespace Go.Proofs.YtiokjjiakcbmhaaDoor
open Go.RowKit Go.ChangeMaps

theorem kl_bool (d : Nat) (b : Bool) : Tryd.prog.keyLits (d + 1) 4 [.bool b] = some [.bool b] := by
  unfold Program.keyLits
  rw [Tryd.underlying4]
theorem kl_int (d : Nat) (n : Int) (h : -9223372036854775808 ≤ n ∧ n ≤ 9223372036854775807) : Tryd.prog.keyLits (d + 1) 3 [.int .i64 n] = some [.int .i64 n] := by
  unfold Program.keyLits
  rw [Tryd.underlying3]
  have hw : (Lit.int .i64 n).wf = true := by simpa [Lit.wf, IntKind.min, IntKind.max, IntKind.signed, IntKind.bits] using h
  simp [hw]
theorem kl_str (d : Nat) (s : ByteArray) (h : s.size ≤ 9223372036854775807) : Tryd.prog.keyLits (d + 1) 9 [.string s] = some [.string s.data.toList] := by
  unfold Program.keyLits
  rw [Tryd.underlying9]
  simp [maxLen, h]
theorem kl_term (d : Nat) (t : TermD) (h : t.name.size ≤ 9223372036854775807) : Tryd.prog.keyLits (d + 2) 24 [.bool t.v, .string t.name] = some [.bool t.v, .string t.name.data.toList] := by
  have e : Tryd.prog.cellsOf 24 = 2 := by kernel_rfl
  have e1 : Tryd.prog.cellsOf 4 = 1 := by kernel_rfl
  have e2 : Tryd.prog.cellsOf 9 = 1 := by kernel_rfl
  unfold Program.keyLits
  rw [Tryd.underlying24]
  simp [e, e1, e2, kl_bool, kl_str d t.name h]
theorem kl_terms (d : Nat) (a b c e : TermD) (ha : a.name.size ≤ 9223372036854775807) (hb : b.name.size ≤ 9223372036854775807) (hc : c.name.size ≤ 9223372036854775807) (he : e.name.size ≤ 9223372036854775807) :
    ∃ L, Tryd.prog.keyLits (d + 3) 25 [.bool a.v, .string a.name, .bool b.v, .string b.name, .bool c.v, .string c.name, .bool e.v, .string e.name] = some L := by
  have e0 : Tryd.prog.cellsOf 25 = 8 := by kernel_rfl
  have e1 : Tryd.prog.cellsOf 24 = 2 := by kernel_rfl
  have r4 : List.range 4 = [0, 1, 2, 3] := by decide
  unfold Program.keyLits
  rw [Tryd.underlying25]
  simp [e0, e1, r4, kl_term d a ha, kl_term d b hb, kl_term d c hc, kl_term d e he]
theorem kl_atom (d : Nat) (a : AtomD) (h : AtomOk a) : ∃ L, Tryd.prog.keyLits (d + 4) 27 #[.string a.says, .string a.pred, .int .i64 a.n, .bool a.t0.v, .string a.t0.name, .bool a.t1.v, .string a.t1.name, .bool a.t2.v, .string a.t2.name, .bool a.t3.v, .string a.t3.name].toList = some L := by
  obtain ⟨L, hL⟩ := kl_terms d a.t0 a.t1 a.t2 a.t3 h.t0 h.t1 h.t2 h.t3
  have e0 : Tryd.prog.cellsOf 27 = 11 := by kernel_rfl
  have e1 : Tryd.prog.cellsOf 9 = 1 := by kernel_rfl
  have e2 : Tryd.prog.cellsOf 3 = 1 := by kernel_rfl
  have e3 : Tryd.prog.cellsOf 25 = 8 := by kernel_rfl
  unfold Program.keyLits
  rw [Tryd.underlying27]
  simp [e0, e1, e2, e3, hL, kl_str (d + 2) a.says h.says, kl_str (d + 2) a.pred h.pred, kl_int (d + 2) a.n h.n]
theorem atom_key (a : AtomD) (h : AtomOk a) : ∃ l, keyOf Tryd.prog 27 (.agg #[.string a.says, .string a.pred, .int .i64 a.n, .bool a.t0.v, .string a.t0.name, .bool a.t1.v, .string a.t1.name, .bool a.t2.v, .string a.t2.name, .bool a.t3.v, .string a.t3.name]) = some l := by
  have h4 : 4 ≤ Tryd.prog.types.size + 1 := by decide +kernel
  obtain ⟨d, hd⟩ : ∃ d, Tryd.prog.types.size + 1 = d + 4 := ⟨Tryd.prog.types.size + 1 - 4, by omega⟩
  obtain ⟨L, hL⟩ := kl_atom d a h
  have hk : Tryd.prog.keyType 27 = true := by kernel_rfl
  unfold keyOf
  rw [Tryd.underlying27]
  simp only [hd]
  rw [hk]
  refine ⟨.string (keyBytes L), ?_⟩
  have hf : (Value.formed Tryd.prog 27 (.agg #[.string a.says, .string a.pred, .int .i64 a.n, .bool a.t0.v, .string a.t0.name, .bool a.t1.v, .string a.t1.name, .bool a.t2.v, .string a.t2.name, .bool a.t3.v, .string a.t3.name])) = true := by
    have e0 : Tryd.prog.cellsOf 27 = 11 := by kernel_rfl
    simp [Value.formed, Tryd.underlying27, e0]
  rw [hf]
  show (if (true && true) = true then (Tryd.prog.keyLits (d + 4) 27 #[.string a.says, .string a.pred, .int .i64 a.n, .bool a.t0.v, .string a.t0.name, .bool a.t1.v, .string a.t1.name, .bool a.t2.v, .string a.t2.name, .bool a.t3.v, .string a.t3.name].toList).map _ else none) = _
  rw [hL]; rfl
theorem keyA : WideMaps.KeyLaw Tryd.prog 27 := deep_law_laid (by kernel_rfl) (m := 8) (by decide) (by decide +kernel) (by kernel_rfl) (by rw [Tryd.underlying27])

/-- block M is the set of the atoms ds -/
def SetA (w : World) (M : Nat) (ds : List AtomD) : Prop := ∃ f, KMap Tryd.prog 27 w M f ds.length ∧ ∀ c : AtomD, f (.agg #[.string c.says, .string c.pred, .int .i64 c.n, .bool c.t0.v, .string c.t0.name, .bool c.t1.v, .string c.t1.name, .bool c.t2.v, .string c.t2.name, .bool c.t3.v, .string c.t3.name]) = if ds.any (eqA c) then some (.agg #[]) else none
theorem SetA.made (w : World) : SetA (w.alloc (.map #[] 0)) w.heap.size [] := ⟨_, KMap.made _ _ w, fun _ => rfl⟩
theorem SetA.fr {F : List Nat} {w w' : World} {M : Nat} {ds : List AtomD} (h : SetA w M ds) (hf : Fr F w w') (hn : M ∉ F) : SetA w' M ds := by
  obtain ⟨f, h1, h2⟩ := h
  exact ⟨f, h1.fr hf hn, h2⟩
theorem SetA.bel {w w' : World} {M : Nat} {ds : List AtomD} (h : SetA w M ds) (hg : Bel w w') : SetA w' M ds := by
  obtain ⟨f, h1, h2⟩ := h
  exact ⟨f, h1.bel hg, h2⟩
theorem SetA.lt {w : World} {M : Nat} {ds : List AtomD} (h : SetA w M ds) : M < w.heap.size := by
  obtain ⟨f, h1, h2⟩ := h
  exact h1.lt
theorem zero_unit (w : World) : (zeroValue 60).run Tryd.prog w = .ok (.agg #[]) w := by kernel_rfl
theorem SetA.look {w : World} {M : Nat} {ds : List AtomD} (h : SetA w M ds) (c : AtomD) (hc : AtomOk c) : (Instr.lookup 59 (.map (some M)) (.agg #[.string c.says, .string c.pred, .int .i64 c.n, .bool c.t0.v, .string c.t0.name, .bool c.t1.v, .string c.t1.name, .bool c.t2.v, .string c.t2.name, .bool c.t3.v, .string c.t3.name]) true).run Tryd.prog w = .ok (.tuple #[.agg #[], .bool (ds.any (eqA c))]) w := by
  obtain ⟨f, h1, h2⟩ := h
  obtain ⟨l, hl⟩ := atom_key c hc
  have := h1.look_ok keyA Tryd.underlying59 (zero_unit w) hl
  rw [h2 c] at this
  rw [this]
  cases ds.any (eqA c) <;> rfl
theorem atom_value_inj {a b : AtomD} (h : (.agg #[.string a.says, .string a.pred, .int .i64 a.n, .bool a.t0.v, .string a.t0.name, .bool a.t1.v, .string a.t1.name, .bool a.t2.v, .string a.t2.name, .bool a.t3.v, .string a.t3.name] : Value) = .agg #[.string b.says, .string b.pred, .int .i64 b.n, .bool b.t0.v, .string b.t0.name, .bool b.t1.v, .string b.t1.name, .bool b.t2.v, .string b.t2.name, .bool b.t3.v, .string b.t3.name]) : a = b := by
  simp only [Value.agg.injEq, Array.mk.injEq, List.cons.injEq, Value.string.injEq, Value.int.injEq, Value.bool.injEq, and_true, true_and] at h
  obtain ⟨h1, h2, h3, h4, h5, h6, h7, h8, h9, h10, h11⟩ := h
  exact AtomD.ext' h1 h2 h3 (by unfold argsD; rw [TermD.ext' h4 h5, TermD.ext' h6 h7, TermD.ext' h8 h9, TermD.ext' h10 h11])
theorem any_snoc (ds : List AtomD) (c x : AtomD) : (ds ++ [c]).any (eqA x) = (ds.any (eqA x) || eqA x c) := by rw [List.any_append]; simp
theorem wpList_put_set {ops : Array Oper} {rest : List Oper} {o : Oper} {a : Act} {w : World} {Q : Exit → Act → World → Prop} (hg : o.guard = none) (m x v : Operand) (hop : o.op = Op.mapUpdate 59 m x v)
    (M : Nat) (ds : List AtomD) (c : AtomD) (hc : AtomOk c) (hm : a.eval m = .map (some M)) (hx : a.eval x = .agg #[.string c.says, .string c.pred, .int .i64 c.n, .bool c.t0.v, .string c.t0.name, .bool c.t1.v, .string c.t1.name, .bool c.t2.v, .string c.t2.name, .bool c.t3.v, .string c.t3.name]) (hv : a.eval v = .agg #[]) (hown : SetA w M ds) (hnew : ds.any (eqA c) = false)
    (hK : ∀ w', SetA w' M (ds ++ [c]) → Fr [M] w w' → wpList Tryd.prog ops Q rest (a.put o.dst undef) w') : wpList Tryd.prog ops Q (o :: rest) a w := by
  obtain ⟨f, h1, h2⟩ := hown
  obtain ⟨l, hl⟩ := atom_key c hc
  refine wpList_store_key hg m x v 59 hop 27 60 keyA Tryd.underlying59 M ds.length f hm h1 _ l _ hx hv hl ?_
  intro w' g k1 k2 k3
  refine hK w' ⟨g, ?_, fun y => ?_⟩ k3
  · rw [h2 c, hnew] at k1
    rw [List.length_append]; exact k1
  · rw [any_snoc]
    by_cases e : y = c
    · subst e
      rw [k2.1, (eqA_iff _ _).2 rfl, Bool.or_true]; rfl
    · rw [k2.2 _ (fun h => e (atom_value_inj h)), h2 y]
      have : eqA y c = false := by rw [Bool.eq_false_iff]; exact fun h => e ((eqA_iff _ _).1 h)
      rw [this, Bool.or_false]
end Go.Proofs.YtiokjjiakcbmhaaDoor
