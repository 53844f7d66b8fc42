/-
  The law OrderCalls for every input. Conditions: what came in lies as its parameters' types say.
-/
import Derived.Test.YtamghlneoglfnaaOrS
import Derived.Test.YtamghlneoglfnaaOrN3
namespace Go.Proofs.Ytamghlneoglfnaa
open Go.RowKit

theorem sm_join3 {l m n : List AtomD} (h1 : SmA l) (h2 : SmA m) (h3 : SmA n) : SmA [l, m, n].flatten := fun x hx => by
  simp only [List.flatten_cons, List.flatten_nil, List.append_nil, List.mem_append] at hx
  rcases hx with h | h | h
  · exact h1 x h
  · exact h2 x h
  · exact h3 x h
theorem at_two (W : World) (c1 c2 : Array Value) : ((W.alloc (.cells c1 29)).alloc (.cells c2 29)).heap[W.heap.size + 1]? = some (.cells c2 29 (0, 0)) := by
  have := heap_alloc_new (W.alloc (.cells c1 29)) (.cells c2 29)
  rwa [show (W.alloc (.cells c1 29)).heap.size = W.heap.size + 1 by simp] at this
theorem at_one (W : World) (c1 c2 : Array Value) : ((W.alloc (.cells c1 29)).alloc (.cells c2 29)).heap[W.heap.size]? = some (.cells c1 29 (0, 0)) := blk_alloc (heap_alloc_new _ _) _
theorem bel_two (W : World) (c1 c2 : Array Value) : Bel W ((W.alloc (.cells c1 29)).alloc (.cells c2 29)) := (bel_alloc _ _).trans' (bel_alloc _ _)
theorem sm_out8 {l : List AtomD} {a : AtomD} (h : SmA l) : SmA (removeD l a) := fun x hx => h x (sorted_memA (List.mem_filter.1 hx).1)
theorem len_add8 (l : List AtomD) (a : AtomD) : (addD l a).length ≤ l.length + 1 := by
  have := sorted_lenA (l ++ [a])
  unfold addD
  simp at this; omega
theorem len_minus8 (l m : List AtomD) : (minusD l m).length ≤ l.length := Nat.le_trans (List.length_filter_le _ _) (sorted_lenA l)
theorem cutL8 {T G : Prop} (hm : RowKit.Hid T → G) (hk : T) : G := hm (Lib.hid hk)
theorem tkmY {P : Program} {ops : Array Oper} {Q : Exit → Act → World → Prop} {md : Region.Mode} {S : World → Prop} (i : Nat) (oi : Oper) {v : Value} {fuel : Nat} {listed : Array Bool} {a : Act} {w : World} (hi : ops[i]? = some oi)
    (hs : Region.noSelect ops = true) (hf : Region.free md ops listed i = true) (hr : (Region.ready md ops listed).contains i = true)
    (hQ : ∀ c a w, Q (.panic c) (a.put oi.dst v) w → Q (.panic c) a w) (hw : Region.wanted oi (yielded ops a.tmps) = true) (hS : S w)
    (hy : ∀ w, S w → (execOp a.eval oi).run P w = .ok (.value v) w)
    (h : wpAnyH P md ops Q S fuel (listed.setIfInBounds i true) (a.put oi.dst v) w) : wpAnyH P md ops Q S (fuel + 1) listed a w :=
  wpAnyH_take hi hs hf hr hQ (Or.inl ⟨hw, hy⟩) hS h
abbrev mo0 : Oper := { dst := some 83, op := Go.Op.move (Go.Operand.tmp 10), type := 29, pos := "law.go:50", after := #[], guard := none }
abbrev mo1 : Oper := { dst := some 84, op := Go.Op.move (Go.Operand.tmp 12), type := 29, pos := "law.go:50", after := #[], guard := none }
abbrev mo2 : Oper := { dst := some 85, op := Go.Op.call { callee := Go.Callee.value (Go.Operand.func 13), args := #[Go.Operand.tmp 83, Go.Operand.tmp 84], argTypes := #[29, 29] }, type := 4, pos := "law.go:50", after := #[{ on := 0, ground := Go.Ground.data }, { on := 1, ground := Go.Ground.data }], guard := none }
abbrev mo3 : Oper := { dst := some 86, op := Go.Op.move (Go.Operand.tmp 85), type := 4, pos := "law.go:50", after := #[{ on := 2, ground := Go.Ground.data }, { on := 2, ground := Go.Ground.chain }], guard := none }
abbrev mo4 : Oper := { dst := some 87, op := Go.Op.move (Go.Operand.tmp 11), type := 4, pos := "law.go:50", after := #[{ on := 3, ground := Go.Ground.guard }], guard := some (3, true) }
abbrev mo5 : Oper := { dst := some 88, op := Go.Op.move (Go.Operand.tmp 13), type := 4, pos := "law.go:50", after := #[{ on := 3, ground := Go.Ground.guard }], guard := some (3, true) }
abbrev mo6 : Oper := { dst := some 89, op := Go.Op.binOp Go.BinOp.eql 4 (Go.Operand.tmp 87) (Go.Operand.tmp 88) 4, type := 4, pos := "law.go:50", after := #[{ on := 4, ground := Go.Ground.data }, { on := 5, ground := Go.Ground.data }, { on := 3, ground := Go.Ground.guard }], guard := some (3, true) }
abbrev mo7 : Oper := { dst := some 90, op := Go.Op.pick (Go.Operand.tmp 86) (Go.Operand.tmp 89) (Go.Operand.const (Go.Value.bool false)), type := 4, pos := "law.go:50", after := #[{ on := 3, ground := Go.Ground.data }, { on := 6, ground := Go.Ground.data }], guard := none }
abbrev mo8 : Oper := { dst := some 91, op := Go.Op.move (Go.Operand.tmp 90), type := 4, pos := "law.go:50", after := #[{ on := 7, ground := Go.Ground.data }, { on := 3, ground := Go.Ground.chain }], guard := none }
abbrev mo9 : Oper := { dst := some 92, op := Go.Op.move (Go.Operand.tmp 14), type := 29, pos := "law.go:50", after := #[{ on := 8, ground := Go.Ground.guard }], guard := some (8, true) }
abbrev mo10 : Oper := { dst := some 93, op := Go.Op.move (Go.Operand.tmp 16), type := 29, pos := "law.go:50", after := #[{ on := 8, ground := Go.Ground.guard }], guard := some (8, true) }
abbrev mo11 : Oper := { dst := some 94, op := Go.Op.call { callee := Go.Callee.value (Go.Operand.func 13), args := #[Go.Operand.tmp 92, Go.Operand.tmp 93], argTypes := #[29, 29] }, type := 4, pos := "law.go:50", after := #[{ on := 9, ground := Go.Ground.data }, { on := 10, ground := Go.Ground.data }, { on := 8, ground := Go.Ground.chain }, { on := 8, ground := Go.Ground.guard }], guard := some (8, true) }
abbrev mo12 : Oper := { dst := some 95, op := Go.Op.pick (Go.Operand.tmp 91) (Go.Operand.tmp 94) (Go.Operand.const (Go.Value.bool false)), type := 4, pos := "law.go:50", after := #[{ on := 8, ground := Go.Ground.data }, { on := 11, ground := Go.Ground.data }], guard := none }
abbrev mo13 : Oper := { dst := some 96, op := Go.Op.move (Go.Operand.tmp 95), type := 4, pos := "law.go:50", after := #[{ on := 12, ground := Go.Ground.data }, { on := 11, ground := Go.Ground.chain }], guard := none }
abbrev mo14 : Oper := { dst := some 97, op := Go.Op.move (Go.Operand.tmp 15), type := 4, pos := "law.go:50", after := #[{ on := 13, ground := Go.Ground.guard }], guard := some (13, true) }
abbrev mo15 : Oper := { dst := some 98, op := Go.Op.move (Go.Operand.tmp 17), type := 4, pos := "law.go:50", after := #[{ on := 13, ground := Go.Ground.guard }], guard := some (13, true) }
abbrev mo16 : Oper := { dst := some 99, op := Go.Op.binOp Go.BinOp.eql 4 (Go.Operand.tmp 97) (Go.Operand.tmp 98) 4, type := 4, pos := "law.go:50", after := #[{ on := 14, ground := Go.Ground.data }, { on := 15, ground := Go.Ground.data }, { on := 13, ground := Go.Ground.guard }], guard := some (13, true) }
abbrev mo17 : Oper := { dst := some 100, op := Go.Op.pick (Go.Operand.tmp 96) (Go.Operand.tmp 99) (Go.Operand.const (Go.Value.bool false)), type := 4, pos := "law.go:50", after := #[{ on := 13, ground := Go.Ground.data }, { on := 16, ground := Go.Ground.data }], guard := none }
abbrev mo18 : Oper := { dst := some 101, op := Go.Op.move (Go.Operand.tmp 100), type := 4, pos := "law.go:50", after := #[{ on := 17, ground := Go.Ground.data }, { on := 13, ground := Go.Ground.chain }], guard := none }
abbrev mo19 : Oper := { dst := some 102, op := Go.Op.move (Go.Operand.tmp 0), type := 29, pos := "law.go:50", after := #[{ on := 18, ground := Go.Ground.guard }], guard := some (18, true) }
abbrev mo20 : Oper := { dst := some 103, op := Go.Op.call { callee := Go.Callee.value (Go.Operand.func 14), args := #[Go.Operand.tmp 102], argTypes := #[29] }, type := 4, pos := "law.go:50", after := #[{ on := 19, ground := Go.Ground.data }, { on := 18, ground := Go.Ground.chain }, { on := 18, ground := Go.Ground.guard }], guard := some (18, true) }
abbrev mo21 : Oper := { dst := some 104, op := Go.Op.move (Go.Operand.tmp 0), type := 29, pos := "law.go:50", after := #[{ on := 18, ground := Go.Ground.guard }], guard := some (18, true) }
abbrev mo22 : Oper := { dst := some 105, op := Go.Op.call { callee := Go.Callee.value (Go.Operand.func 25), args := #[Go.Operand.tmp 104], argTypes := #[29] }, type := 4, pos := "law.go:50", after := #[{ on := 21, ground := Go.Ground.data }, { on := 20, ground := Go.Ground.chain }, { on := 18, ground := Go.Ground.guard }], guard := some (18, true) }
abbrev mo23 : Oper := { dst := some 106, op := Go.Op.binOp Go.BinOp.eql 4 (Go.Operand.tmp 103) (Go.Operand.tmp 105) 4, type := 4, pos := "law.go:50", after := #[{ on := 20, ground := Go.Ground.data }, { on := 22, ground := Go.Ground.data }, { on := 18, ground := Go.Ground.guard }], guard := some (18, true) }
abbrev mo24 : Oper := { dst := some 107, op := Go.Op.pick (Go.Operand.tmp 101) (Go.Operand.tmp 106) (Go.Operand.const (Go.Value.bool false)), type := 4, pos := "law.go:50", after := #[{ on := 18, ground := Go.Ground.data }, { on := 23, ground := Go.Ground.data }], guard := none }
abbrev mo25 : Oper := { dst := some 108, op := Go.Op.move (Go.Operand.tmp 107), type := 4, pos := "law.go:50", after := #[{ on := 24, ground := Go.Ground.data }, { on := 22, ground := Go.Ground.chain }], guard := none }
abbrev mo26 : Oper := { dst := some 109, op := Go.Op.move (Go.Operand.tmp 0), type := 29, pos := "law.go:50", after := #[{ on := 25, ground := Go.Ground.guard }], guard := some (25, true) }
abbrev mo27 : Oper := { dst := some 110, op := Go.Op.call { callee := Go.Callee.value (Go.Operand.func 22), args := #[Go.Operand.tmp 109], argTypes := #[29] }, type := 29, pos := "law.go:50", after := #[{ on := 26, ground := Go.Ground.data }, { on := 25, ground := Go.Ground.chain }, { on := 25, ground := Go.Ground.guard }], guard := some (25, true) }
abbrev mo28 : Oper := { dst := some 111, op := Go.Op.call { callee := Go.Callee.value (Go.Operand.func 10), args := #[Go.Operand.tmp 110], argTypes := #[29] }, type := 29, pos := "law.go:50", after := #[{ on := 27, ground := Go.Ground.data }, { on := 27, ground := Go.Ground.chain }, { on := 25, ground := Go.Ground.guard }], guard := some (25, true) }
abbrev mo29 : Oper := { dst := some 112, op := Go.Op.move (Go.Operand.tmp 0), type := 29, pos := "law.go:50", after := #[{ on := 25, ground := Go.Ground.guard }], guard := some (25, true) }
abbrev mo30 : Oper := { dst := some 113, op := Go.Op.call { callee := Go.Callee.value (Go.Operand.func 26), args := #[Go.Operand.tmp 112], argTypes := #[29] }, type := 29, pos := "law.go:50", after := #[{ on := 29, ground := Go.Ground.data }, { on := 28, ground := Go.Ground.chain }, { on := 25, ground := Go.Ground.guard }], guard := some (25, true) }
abbrev mo31 : Oper := { dst := some 114, op := Go.Op.call { callee := Go.Callee.value (Go.Operand.func 13), args := #[Go.Operand.tmp 111, Go.Operand.tmp 113], argTypes := #[29, 29] }, type := 4, pos := "law.go:50", after := #[{ on := 28, ground := Go.Ground.data }, { on := 30, ground := Go.Ground.data }, { on := 30, ground := Go.Ground.chain }, { on := 25, ground := Go.Ground.guard }], guard := some (25, true) }
abbrev mo32 : Oper := { dst := some 115, op := Go.Op.pick (Go.Operand.tmp 108) (Go.Operand.tmp 114) (Go.Operand.const (Go.Value.bool false)), type := 4, pos := "law.go:50", after := #[{ on := 25, ground := Go.Ground.data }, { on := 31, ground := Go.Ground.data }], guard := none }
abbrev mo33 : Oper := { dst := some 116, op := Go.Op.move (Go.Operand.tmp 115), type := 4, pos := "law.go:50", after := #[{ on := 32, ground := Go.Ground.data }, { on := 31, ground := Go.Ground.chain }], guard := none }
abbrev mo34 : Oper := { dst := some 117, op := Go.Op.move (Go.Operand.tmp 0), type := 29, pos := "law.go:50", after := #[{ on := 33, ground := Go.Ground.guard }], guard := some (33, true) }
abbrev mo35 : Oper := { dst := some 118, op := Go.Op.load 27 (Go.Operand.tmp 7), type := 27, pos := "law.go:50", after := #[{ on := 33, ground := Go.Ground.guard }], guard := some (33, true) }
abbrev mo36 : Oper := { dst := some 119, op := Go.Op.call { callee := Go.Callee.value (Go.Operand.func 15), args := #[Go.Operand.tmp 117, Go.Operand.tmp 118], argTypes := #[29, 27] }, type := 4, pos := "law.go:50", after := #[{ on := 34, ground := Go.Ground.data }, { on := 35, ground := Go.Ground.data }, { on := 33, ground := Go.Ground.chain }, { on := 33, ground := Go.Ground.guard }], guard := some (33, true) }
abbrev mo37 : Oper := { dst := some 120, op := Go.Op.move (Go.Operand.tmp 0), type := 29, pos := "law.go:50", after := #[{ on := 33, ground := Go.Ground.guard }], guard := some (33, true) }
abbrev mo38 : Oper := { dst := some 121, op := Go.Op.load 27 (Go.Operand.tmp 7), type := 27, pos := "law.go:50", after := #[{ on := 33, ground := Go.Ground.guard }], guard := some (33, true) }
abbrev mo39 : Oper := { dst := some 122, op := Go.Op.call { callee := Go.Callee.value (Go.Operand.func 27), args := #[Go.Operand.tmp 120, Go.Operand.tmp 121], argTypes := #[29, 27] }, type := 4, pos := "law.go:50", after := #[{ on := 37, ground := Go.Ground.data }, { on := 38, ground := Go.Ground.data }, { on := 36, ground := Go.Ground.chain }, { on := 33, ground := Go.Ground.guard }], guard := some (33, true) }
abbrev mo40 : Oper := { dst := some 123, op := Go.Op.binOp Go.BinOp.eql 4 (Go.Operand.tmp 119) (Go.Operand.tmp 122) 4, type := 4, pos := "law.go:50", after := #[{ on := 36, ground := Go.Ground.data }, { on := 39, ground := Go.Ground.data }, { on := 33, ground := Go.Ground.guard }], guard := some (33, true) }
abbrev mo41 : Oper := { dst := some 124, op := Go.Op.pick (Go.Operand.tmp 116) (Go.Operand.tmp 123) (Go.Operand.const (Go.Value.bool false)), type := 4, pos := "law.go:50", after := #[{ on := 33, ground := Go.Ground.data }, { on := 40, ground := Go.Ground.data }], guard := none }
abbrev mo42 : Oper := { dst := some 125, op := Go.Op.move (Go.Operand.tmp 124), type := 4, pos := "law.go:50", after := #[{ on := 41, ground := Go.Ground.data }, { on := 39, ground := Go.Ground.chain }], guard := none }
abbrev mo43 : Oper := { dst := some 126, op := Go.Op.move (Go.Operand.tmp 0), type := 29, pos := "law.go:50", after := #[{ on := 42, ground := Go.Ground.guard }], guard := some (42, true) }
abbrev mo44 : Oper := { dst := some 127, op := Go.Op.call { callee := Go.Callee.value (Go.Operand.func 22), args := #[Go.Operand.tmp 126], argTypes := #[29] }, type := 29, pos := "law.go:50", after := #[{ on := 43, ground := Go.Ground.data }, { on := 42, ground := Go.Ground.chain }, { on := 42, ground := Go.Ground.guard }], guard := some (42, true) }
abbrev mo45 : Oper := { dst := some 128, op := Go.Op.move (Go.Operand.tmp 1), type := 29, pos := "law.go:50", after := #[{ on := 42, ground := Go.Ground.guard }], guard := some (42, true) }
abbrev mo46 : Oper := { dst := some 129, op := Go.Op.call { callee := Go.Callee.value (Go.Operand.func 22), args := #[Go.Operand.tmp 128], argTypes := #[29] }, type := 29, pos := "law.go:50", after := #[{ on := 45, ground := Go.Ground.data }, { on := 44, ground := Go.Ground.chain }, { on := 42, ground := Go.Ground.guard }], guard := some (42, true) }
abbrev mo47 : Oper := { dst := some 130, op := Go.Op.move (Go.Operand.tmp 2), type := 29, pos := "law.go:50", after := #[{ on := 42, ground := Go.Ground.guard }], guard := some (42, true) }
abbrev mo48 : Oper := { dst := some 131, op := Go.Op.call { callee := Go.Callee.value (Go.Operand.func 22), args := #[Go.Operand.tmp 130], argTypes := #[29] }, type := 29, pos := "law.go:50", after := #[{ on := 47, ground := Go.Ground.data }, { on := 46, ground := Go.Ground.chain }, { on := 42, ground := Go.Ground.guard }], guard := some (42, true) }
abbrev mo49 : Oper := { dst := some 132, op := Go.Op.buildSlice 42 3 #[(0, Go.Operand.tmp 127), (1, Go.Operand.tmp 129), (2, Go.Operand.tmp 131)], type := 42, pos := "law.go:50", after := #[{ on := 44, ground := Go.Ground.data }, { on := 46, ground := Go.Ground.data }, { on := 48, ground := Go.Ground.data }, { on := 42, ground := Go.Ground.guard }], guard := some (42, true) }
abbrev mo50 : Oper := { dst := some 133, op := Go.Op.call { callee := Go.Callee.value (Go.Operand.func 16), args := #[Go.Operand.tmp 132], argTypes := #[42] }, type := 29, pos := "law.go:50", after := #[{ on := 49, ground := Go.Ground.data }, { on := 48, ground := Go.Ground.chain }, { on := 42, ground := Go.Ground.guard }], guard := some (42, true) }
abbrev mo51 : Oper := { dst := some 134, op := Go.Op.move (Go.Operand.tmp 0), type := 29, pos := "law.go:50", after := #[{ on := 42, ground := Go.Ground.guard }], guard := some (42, true) }
abbrev mo52 : Oper := { dst := some 135, op := Go.Op.move (Go.Operand.tmp 1), type := 29, pos := "law.go:50", after := #[{ on := 42, ground := Go.Ground.guard }], guard := some (42, true) }
abbrev mo53 : Oper := { dst := some 136, op := Go.Op.move (Go.Operand.tmp 2), type := 29, pos := "law.go:50", after := #[{ on := 42, ground := Go.Ground.guard }], guard := some (42, true) }
abbrev mo54 : Oper := { dst := some 137, op := Go.Op.buildSlice 42 3 #[(0, Go.Operand.tmp 134), (1, Go.Operand.tmp 135), (2, Go.Operand.tmp 136)], type := 42, pos := "law.go:50", after := #[{ on := 51, ground := Go.Ground.data }, { on := 52, ground := Go.Ground.data }, { on := 53, ground := Go.Ground.data }, { on := 42, ground := Go.Ground.guard }], guard := some (42, true) }
abbrev mo55 : Oper := { dst := some 138, op := Go.Op.call { callee := Go.Callee.value (Go.Operand.func 28), args := #[Go.Operand.tmp 137], argTypes := #[42] }, type := 29, pos := "law.go:50", after := #[{ on := 54, ground := Go.Ground.data }, { on := 50, ground := Go.Ground.chain }, { on := 42, ground := Go.Ground.guard }], guard := some (42, true) }
abbrev mo56 : Oper := { dst := some 139, op := Go.Op.call { callee := Go.Callee.value (Go.Operand.func 13), args := #[Go.Operand.tmp 133, Go.Operand.tmp 138], argTypes := #[29, 29] }, type := 4, pos := "law.go:50", after := #[{ on := 50, ground := Go.Ground.data }, { on := 55, ground := Go.Ground.data }, { on := 55, ground := Go.Ground.chain }, { on := 42, ground := Go.Ground.guard }], guard := some (42, true) }
abbrev mo57 : Oper := { dst := some 140, op := Go.Op.pick (Go.Operand.tmp 125) (Go.Operand.tmp 139) (Go.Operand.const (Go.Value.bool false)), type := 4, pos := "law.go:50", after := #[{ on := 42, ground := Go.Ground.data }, { on := 56, ground := Go.Ground.data }], guard := none }
abbrev mo58 : Oper := { dst := some 141, op := Go.Op.move (Go.Operand.tmp 140), type := 4, pos := "law.go:50", after := #[{ on := 57, ground := Go.Ground.data }, { on := 56, ground := Go.Ground.chain }], guard := none }
abbrev mo59 : Oper := { dst := some 142, op := Go.Op.move (Go.Operand.tmp 0), type := 29, pos := "law.go:50", after := #[{ on := 58, ground := Go.Ground.guard }], guard := some (58, true) }
abbrev mo60 : Oper := { dst := some 143, op := Go.Op.call { callee := Go.Callee.value (Go.Operand.func 22), args := #[Go.Operand.tmp 142], argTypes := #[29] }, type := 29, pos := "law.go:50", after := #[{ on := 59, ground := Go.Ground.data }, { on := 58, ground := Go.Ground.chain }, { on := 58, ground := Go.Ground.guard }], guard := some (58, true) }
abbrev mo61 : Oper := { dst := some 144, op := Go.Op.move (Go.Operand.tmp 1), type := 29, pos := "law.go:50", after := #[{ on := 58, ground := Go.Ground.guard }], guard := some (58, true) }
abbrev mo62 : Oper := { dst := some 145, op := Go.Op.call { callee := Go.Callee.value (Go.Operand.func 17), args := #[Go.Operand.tmp 143, Go.Operand.tmp 144], argTypes := #[29, 29] }, type := 29, pos := "law.go:50", after := #[{ on := 60, ground := Go.Ground.data }, { on := 61, ground := Go.Ground.data }, { on := 60, ground := Go.Ground.chain }, { on := 58, ground := Go.Ground.guard }], guard := some (58, true) }
abbrev mo63 : Oper := { dst := some 146, op := Go.Op.move (Go.Operand.tmp 0), type := 29, pos := "law.go:50", after := #[{ on := 58, ground := Go.Ground.guard }], guard := some (58, true) }
abbrev mo64 : Oper := { dst := some 147, op := Go.Op.move (Go.Operand.tmp 1), type := 29, pos := "law.go:50", after := #[{ on := 58, ground := Go.Ground.guard }], guard := some (58, true) }
abbrev mo65 : Oper := { dst := some 148, op := Go.Op.call { callee := Go.Callee.value (Go.Operand.func 29), args := #[Go.Operand.tmp 146, Go.Operand.tmp 147], argTypes := #[29, 29] }, type := 29, pos := "law.go:50", after := #[{ on := 63, ground := Go.Ground.data }, { on := 64, ground := Go.Ground.data }, { on := 62, ground := Go.Ground.chain }, { on := 58, ground := Go.Ground.guard }], guard := some (58, true) }
abbrev mo66 : Oper := { dst := some 149, op := Go.Op.call { callee := Go.Callee.value (Go.Operand.func 13), args := #[Go.Operand.tmp 145, Go.Operand.tmp 148], argTypes := #[29, 29] }, type := 4, pos := "law.go:50", after := #[{ on := 62, ground := Go.Ground.data }, { on := 65, ground := Go.Ground.data }, { on := 65, ground := Go.Ground.chain }, { on := 58, ground := Go.Ground.guard }], guard := some (58, true) }
abbrev mo67 : Oper := { dst := some 150, op := Go.Op.pick (Go.Operand.tmp 141) (Go.Operand.tmp 149) (Go.Operand.const (Go.Value.bool false)), type := 4, pos := "law.go:50", after := #[{ on := 58, ground := Go.Ground.data }, { on := 66, ground := Go.Ground.data }], guard := none }
abbrev mo68 : Oper := { dst := some 8, op := Go.Op.assign (Go.Operand.tmp 150), type := 4, pos := "law.go:50", after := ([{ on := 67, ground := Go.Ground.data }, { on := 66, ground := Go.Ground.chain }, { on := 0, ground := Go.Ground.phase }, { on := 1, ground := Go.Ground.phase }, { on := 2, ground := Go.Ground.phase }, { on := 3, ground := Go.Ground.phase }, { on := 4, ground := Go.Ground.phase }, { on := 5, ground := Go.Ground.phase }, { on := 6, ground := Go.Ground.phase }, { on := 7, ground := Go.Ground.phase }, { on := 8, ground := Go.Ground.phase }, { on := 9, ground := Go.Ground.phase }, { on := 10, ground := Go.Ground.phase }, { on := 11, ground := Go.Ground.phase }, { on := 12, ground := Go.Ground.phase }, { on := 13, ground := Go.Ground.phase }, { on := 14, ground := Go.Ground.phase }, { on := 15, ground := Go.Ground.phase }, { on := 16, ground := Go.Ground.phase }, { on := 17, ground := Go.Ground.phase }, { on := 18, ground := Go.Ground.phase }, { on := 19, ground := Go.Ground.phase }, { on := 20, ground := Go.Ground.phase }, { on := 21, ground := Go.Ground.phase }, { on := 22, ground := Go.Ground.phase }, { on := 23, ground := Go.Ground.phase }, { on := 24, ground := Go.Ground.phase }, { on := 25, ground := Go.Ground.phase }, { on := 26, ground := Go.Ground.phase }, { on := 27, ground := Go.Ground.phase }, { on := 28, ground := Go.Ground.phase }, { on := 29, ground := Go.Ground.phase }, { on := 30, ground := Go.Ground.phase }, { on := 31, ground := Go.Ground.phase }, { on := 32, ground := Go.Ground.phase }, { on := 33, ground := Go.Ground.phase }, { on := 34, ground := Go.Ground.phase }, { on := 35, ground := Go.Ground.phase }, { on := 36, ground := Go.Ground.phase }, { on := 37, ground := Go.Ground.phase }, { on := 38, ground := Go.Ground.phase }, { on := 39, ground := Go.Ground.phase }, { on := 40, ground := Go.Ground.phase }, { on := 41, ground := Go.Ground.phase }, { on := 42, ground := Go.Ground.phase }, { on := 43, ground := Go.Ground.phase }, { on := 44, ground := Go.Ground.phase }, { on := 45, ground := Go.Ground.phase }, { on := 46, ground := Go.Ground.phase }, { on := 47, ground := Go.Ground.phase }, { on := 48, ground := Go.Ground.phase }, { on := 49, ground := Go.Ground.phase }, { on := 50, ground := Go.Ground.phase }, { on := 51, ground := Go.Ground.phase }, { on := 52, ground := Go.Ground.phase }, { on := 53, ground := Go.Ground.phase }, { on := 54, ground := Go.Ground.phase }, { on := 55, ground := Go.Ground.phase }, { on := 56, ground := Go.Ground.phase }, { on := 57, ground := Go.Ground.phase }, { on := 58, ground := Go.Ground.phase }, { on := 59, ground := Go.Ground.phase }, { on := 60, ground := Go.Ground.phase }, { on := 61, ground := Go.Ground.phase }, { on := 62, ground := Go.Ground.phase }, { on := 63, ground := Go.Ground.phase }, { on := 64, ground := Go.Ground.phase }, { on := 65, ground := Go.Ground.phase }, { on := 66, ground := Go.Ground.phase }, { on := 67, ground := Go.Ground.phase }]).toArray, guard := none }
set_option maxRecDepth 20000 in
set_option maxHeartbeats 16000000 in
theorem lawOrderCalls (A : Option Addr) (l : List AtomD) (ca : Nat) (B : Option Addr) (m : List AtomD) (cb : Nat) (C : Option Addr) (n : List AtomD) (cc : Nat) (a : AtomD) (w : World) (hL : AL w A ca l) (hlk : ∀ x ∈ l, AtomOk x) (hll : l.length ≤ 9223372036854775807) (hM : AL w B cb m) (hmk : ∀ x ∈ m, AtomOk x) (hml : m.length ≤ 9223372036854775807) (hN : AL w C cc n) (hnk : ∀ x ∈ n, AtomOk x) (hnl : n.length ≤ 9223372036854775807) (hak : AtomOk a) :
    Calls Try.prog 4 #[.slice A l.length ca, .slice B m.length cb, .slice C n.length cc, .agg #[.string a.says, .string a.pred, .int .i64 a.n, .bool a.t0.v, .string a.t0.name, .bool a.t1.v, .string a.t1.name, .bool a.t2.v, .string a.t2.name, .bool a.t3.v, .string a.t3.name]] w fun e w' => e = .returned (.bool true) ∧ Bel w w' := by
  have hP := AtomAt.new w a
  have hb := bel_alloc w (.cells #[.string a.says, .string a.pred, .int .i64 a.n, .bool a.t0.v, .string a.t0.name, .bool a.t1.v, .string a.t1.name, .bool a.t2.v, .string a.t2.name, .bool a.t3.v, .string a.t3.name] 27)
  have HL := Lib.hid hL
  have HM := Lib.hid hM
  have HN := Lib.hid hN
  have hLl := Lib.hid (fun W (hg : Bel w W) => lightAs_any A l ca 40 W (HL.out.bel hg) hll hlk)
  have hLm := Lib.hid (fun W (hg : Bel w W) => lightAs_any B m cb 40 W (HM.out.bel hg) hml hmk)
  have hLn := Lib.hid (fun W (hg : Bel w W) => lightAs_any C n cc 40 W (HN.out.bel hg) hnl hnk)
  have hLa := Lib.hid (fun W => light_any a W hak)
  clear hL hM hN hlk hmk hnk hll hml hnl hak
  cases q0 : lightAs l 40
  case false =>
    rw [q0] at hLl
    clear q0
    go_enter Try.func4, Try.ntmps4
    go_wp2_with (fail)
    refine (lives8_any _).mono ?_
    rintro e w1 ⟨rfl, hg⟩
    replace hP := hP.bel hg
    replace hb := hb.trans' hg
    clear hg
    go_wp2_with (fail)
    refine (hLl.out _ hb).mono ?_
    rintro e w2 ⟨rfl, hg⟩
    replace hP := hP.bel hg
    replace hb := hb.trans' hg
    clear hg
    go_wp2
    go_ret
    exact ⟨rfl, hb⟩
  rw [q0] at hLl
  cases q1 : lightAs m 40
  case false =>
    rw [q1] at hLm
    clear q0 q1
    go_enter Try.func4, Try.ntmps4
    go_wp2_with (fail)
    refine (lives8_any _).mono ?_
    rintro e w1 ⟨rfl, hg⟩
    replace hP := hP.bel hg
    replace hb := hb.trans' hg
    clear hg
    go_wp2_with (fail)
    refine (hLl.out _ hb).mono ?_
    rintro e w2 ⟨rfl, hg⟩
    replace hP := hP.bel hg
    replace hb := hb.trans' hg
    clear hg
    go_wp2_with (fail)
    refine (hLm.out _ hb).mono ?_
    rintro e w3 ⟨rfl, hg⟩
    replace hP := hP.bel hg
    replace hb := hb.trans' hg
    clear hg
    go_wp2
    go_ret
    exact ⟨rfl, hb⟩
  rw [q1] at hLm
  cases q2 : lightAs n 40
  case false =>
    rw [q2] at hLn
    clear q0 q1 q2
    go_enter Try.func4, Try.ntmps4
    go_wp2_with (fail)
    refine (lives8_any _).mono ?_
    rintro e w1 ⟨rfl, hg⟩
    replace hP := hP.bel hg
    replace hb := hb.trans' hg
    clear hg
    go_wp2_with (fail)
    refine (hLl.out _ hb).mono ?_
    rintro e w2 ⟨rfl, hg⟩
    replace hP := hP.bel hg
    replace hb := hb.trans' hg
    clear hg
    go_wp2_with (fail)
    refine (hLm.out _ hb).mono ?_
    rintro e w3 ⟨rfl, hg⟩
    replace hP := hP.bel hg
    replace hb := hb.trans' hg
    clear hg
    go_wp2_with (fail)
    refine (hLn.out _ hb).mono ?_
    rintro e w4 ⟨rfl, hg⟩
    replace hP := hP.bel hg
    replace hb := hb.trans' hg
    clear hg
    obtain ⟨c0, c1, c2, c3, c4, c5, c6, c7, c8, c9, c10⟩ := hP.cells
    go_wp2
    go_ret
    exact ⟨rfl, hb⟩
  rw [q2] at hLn
  cases q3 : lightA a
  case false =>
    rw [q3] at hLa
    clear q0 q1 q2 q3
    go_enter Try.func4, Try.ntmps4
    go_wp2_with (fail)
    refine (lives8_any _).mono ?_
    rintro e w1 ⟨rfl, hg⟩
    replace hP := hP.bel hg
    replace hb := hb.trans' hg
    clear hg
    go_wp2_with (fail)
    refine (hLl.out _ hb).mono ?_
    rintro e w2 ⟨rfl, hg⟩
    replace hP := hP.bel hg
    replace hb := hb.trans' hg
    clear hg
    go_wp2_with (fail)
    refine (hLm.out _ hb).mono ?_
    rintro e w3 ⟨rfl, hg⟩
    replace hP := hP.bel hg
    replace hb := hb.trans' hg
    clear hg
    go_wp2_with (fail)
    refine (hLn.out _ hb).mono ?_
    rintro e w4 ⟨rfl, hg⟩
    replace hP := hP.bel hg
    replace hb := hb.trans' hg
    clear hg
    obtain ⟨c0, c1, c2, c3, c4, c5, c6, c7, c8, c9, c10⟩ := hP.cells
    go_wp2_with (fail)
    refine (hLa.out _).mono ?_
    rintro e w5 ⟨rfl, hg⟩
    replace hP := hP.bel hg
    replace hb := hb.trans' hg
    clear hg
    clear c0 c1 c2 c3 c4 c5 c6 c7 c8 c9 c10
    go_wp2
    go_ret
    exact ⟨rfl, hb⟩
  rw [q3] at hLa
  obtain ⟨hl30, hlt⟩ := light_each q0
  obtain ⟨hm30, hmt⟩ := light_each q1
  obtain ⟨hn30, hnt⟩ := light_each q2
  have sa := AtomOk.sm q3
  have HSL : RowKit.Hid (SmA l) := Lib.hid (fun x hx => AtomOk.sm (hlt x hx))
  have HSM : RowKit.Hid (SmA m) := Lib.hid (fun x hx => AtomOk.sm (hmt x hx))
  have HSN : RowKit.Hid (SmA n) := Lib.hid (fun x hx => AtomOk.sm (hnt x hx))
  have hl40 : l.length ≤ 40 := by omega
  have hm40 : m.length ≤ 40 := by omega
  have hn40 : n.length ≤ 40 := by omega
  clear q0 q1 q2 q3 hlt hmt hnt hl30 hm30 hn30
  go_enter Try.func4, Try.ntmps4
  go_wp2_with (fail)
  refine (lives8_any _).mono ?_
  rintro e w1 ⟨rfl, hg⟩
  replace hP := hP.bel hg
  replace hb := hb.trans' hg
  clear hg
  go_wp2_with (fail)
  refine (hLl.out _ hb).mono ?_
  rintro e w2 ⟨rfl, hg⟩
  replace hP := hP.bel hg
  replace hb := hb.trans' hg
  clear hg
  go_wp2_with (fail)
  refine (hLm.out _ hb).mono ?_
  rintro e w3 ⟨rfl, hg⟩
  replace hP := hP.bel hg
  replace hb := hb.trans' hg
  clear hg
  go_wp2_with (fail)
  refine (hLn.out _ hb).mono ?_
  rintro e w4 ⟨rfl, hg⟩
  replace hP := hP.bel hg
  replace hb := hb.trans' hg
  clear hg
  obtain ⟨c0, c1, c2, c3, c4, c5, c6, c7, c8, c9, c10⟩ := hP.cells
  go_wp2_with (fail)
  refine (hLa.out _).mono ?_
  rintro e w5 ⟨rfl, hg⟩
  replace hP := hP.bel hg
  replace hb := hb.trans' hg
  clear hg
  clear c0 c1 c2 c3 c4 c5 c6 c7 c8 c9 c10
  have HB := Lib.hid hb
  have HP := Lib.hid hP
  clear hb hP hLl hLm hLn hLa
  go_wp2
  go_loopw [9] (fun i wr => ∃ k : Nat, k ≤ l.length ∧ i = .int .i64 k ∧ RowKit.Hid (Bel w5 wr)) (fun i _ => l.length - (intOf i).toNat)
  case atStart => exact ⟨0, Nat.zero_le _, rfl, Lib.hid (Below.refl _ _)⟩
  case round =>
    obtain ⟨k, hk, rfl, HR⟩ := hrel
    by_cases hlt : k < l.length
    · obtain ⟨b, o, rfl⟩ := al_at HL.out hlt
      have HCX := Lib.hid (al_later HL.out hlt)
      have hq : (0 : Int) ≤ k := by omega
      have hq2 : (k : Int) < l.length := by omega
      have HX := Lib.hid (HSL.out _ (List.getElem_mem hlt))
      generalize l[k] = x at HCX HX
      have HC1 := Lib.hid (fun W => Compare_any x a W HX.out sa)
      have HC2 := Lib.hid (fun W => rCompare_any x a W HX.out sa)
      generalize cmpD x a = r at HC1 HC2
      have hrr : (r != r) = false := by simp
      have hrr2 : (r == r) = true := by simp
      have hd : Bel wr wr.drew := bel_drew' (Below.refl _ _)
      have hP := (HP.out.bel HR.out).drew
      have HBR := Lib.hid (HB.out.trans' HR.out)
      obtain ⟨d0, d1, d2, d3, d4, d5, d6, d7, d8, d9, d10⟩ := hP.cells
      obtain ⟨c0, c1, c2, c3, c4, c5, c6, c7, c8, c9, c10⟩ := HCX.out wr.drew (HBR.out.trans' hd)
      go_wp2
      go_region_held3 (fun w' => (w'.cell? ⟨b, o + k * 11, none⟩ = some (.string x.says) ∧ w'.cell? ⟨b, o + k * 11 + 1, none⟩ = some (.string x.pred) ∧ w'.cell? ⟨b, o + k * 11 + 2, none⟩ = some (.int .i64 x.n) ∧ w'.cell? ⟨b, o + k * 11 + 3, none⟩ = some (.bool x.t0.v) ∧ w'.cell? ⟨b, o + k * 11 + 4, none⟩ = some (.string x.t0.name) ∧ w'.cell? ⟨b, o + k * 11 + 5, none⟩ = some (.bool x.t1.v) ∧ w'.cell? ⟨b, o + k * 11 + 6, none⟩ = some (.string x.t1.name) ∧ w'.cell? ⟨b, o + k * 11 + 7, none⟩ = some (.bool x.t2.v) ∧ w'.cell? ⟨b, o + k * 11 + 8, none⟩ = some (.string x.t2.name) ∧ w'.cell? ⟨b, o + k * 11 + 9, none⟩ = some (.bool x.t3.v) ∧ w'.cell? ⟨b, o + k * 11 + 10, none⟩ = some (.string x.t3.name)) ∧ (w'.cell? ⟨w.heap.size, 0, none⟩ = some (.string a.says) ∧ w'.cell? ⟨w.heap.size, 1, none⟩ = some (.string a.pred) ∧ w'.cell? ⟨w.heap.size, 2, none⟩ = some (.int .i64 a.n) ∧ w'.cell? ⟨w.heap.size, 3, none⟩ = some (.bool a.t0.v) ∧ w'.cell? ⟨w.heap.size, 4, none⟩ = some (.string a.t0.name) ∧ w'.cell? ⟨w.heap.size, 5, none⟩ = some (.bool a.t1.v) ∧ w'.cell? ⟨w.heap.size, 6, none⟩ = some (.string a.t1.name) ∧ w'.cell? ⟨w.heap.size, 7, none⟩ = some (.bool a.t2.v) ∧ w'.cell? ⟨w.heap.size, 8, none⟩ = some (.string a.t2.name) ∧ w'.cell? ⟨w.heap.size, 9, none⟩ = some (.bool a.t3.v) ∧ w'.cell? ⟨w.heap.size, 10, none⟩ = some (.string a.t3.name))) (first | exact ⟨HCX.out _ (HBR.out.trans' hd), hP.cells⟩ | go_keep | trivial)
        (first | (go_at_call 20; refine (HC1.out _).mono ?_; rintro e w6 ⟨rfl, hg⟩; replace hP := hP.bel hg; replace hd := hd.trans' hg; clear hg) | (go_at_call 21; refine (HC2.out _).mono ?_; rintro e w7 ⟨rfl, hg⟩; replace hP := hP.bel hg; replace hd := hd.trans' hg; clear hg))
      all_goals
        clear c0 c1 c2 c3 c4 c5 c6 c7 c8 c9 c10 d0 d1 d2 d3 d4 d5 d6 d7 d8 d9 d10
        go_wp2
        go_roundw
        case rel => exact ⟨k + 1, by omega, by go_num, Lib.hid (HR.out.trans' hd)⟩
        case measure => simp [intOf]; omega
    obtain rfl : k = l.length := by omega
    clear hlt hk
    have HB8 := Lib.hid (HB.out.trans' HR.out)
    have hP := (HP.out.bel HR.out).drew
    clear HB HP HR
    obtain ⟨r1, hr1⟩ : ∃ r, r = addD l a := ⟨_, rfl⟩
    obtain ⟨r2, hr2⟩ : ∃ r, r = removeD l a := ⟨_, rfl⟩
    obtain ⟨f, hf⟩ : ∃ f, f = hasK l a := ⟨_, rfl⟩
    obtain ⟨g, hgf⟩ : ∃ g, g = !f := ⟨_, rfl⟩
    obtain ⟨z, hz⟩ : ∃ z, z = isD l := ⟨_, rfl⟩
    obtain ⟨s, hs⟩ : ∃ s, s = sortedD l := ⟨_, rfl⟩
    obtain ⟨t, ht⟩ : ∃ t, t = sortedD [l, m, n].flatten := ⟨_, rfl⟩
    obtain ⟨u, hu⟩ : ∃ u, u = minusD l m := ⟨_, rfl⟩
    have hr1l : r1.length ≤ 41 := by have := len_add8 l a; rw [hr1]; omega
    have hr2l : r2.length ≤ 40 := by have := len_minus8 l [a]; rw [hr2]; unfold removeD; omega
    have hsl : s.length ≤ 40 := by have := sorted_lenA l; rw [hs]; omega
    have hfl : ([l, m, n].flatten).length ≤ 120 := by simp; omega
    have htl : t.length ≤ 120 := by
      have := sorted_lenA [l, m, n].flatten
      rw [ht]; omega
    have hul : u.length ≤ 40 := by have := len_minus8 l m; rw [hu]; omega
    have C1 := Lib.hid (fun q c W (h : AL W q c l) => Add_any q l l.length c rfl a W h (by omega) HSL.out sa)
    have C2 := Lib.hid (fun W (h : AL W A ca l) => rAdd_any A l l.length ca rfl a W h (by omega) HSL.out sa)
    have C3 := Lib.hid (fun q c W (h : AL W q c l) => Remove_any q l l.length c rfl a W h (by omega) HSL.out sa)
    have C4 := Lib.hid (fun W (h : AL W A ca l) => rRemove_any A l l.length ca rfl a W h (by omega) HSL.out sa)
    have C5 := Lib.hid (fun W (h : AL W A ca l) => Is_any A l l.length ca rfl W h (by omega) HSL.out)
    have C6 := Lib.hid (fun W (h : AL W A ca l) => rIs_any A l l.length ca rfl W h (by omega) HSL.out)
    have C7 := Lib.hid (fun q c W (h : AL W q c l) => Sorted_any q l l.length c rfl W h (by omega) HSL.out)
    have C8 := Lib.hid (fun W (h : AL W A ca l) => rSorted_any A l l.length ca rfl W h (by omega) HSL.out)
    have C9 := Lib.hid (fun W (h : AL W A ca l) => Has_any A l l.length ca rfl a W h (by omega) HSL.out sa)
    have D1 := Lib.hid (fun W (h : AL W A ca l) => rHas_any A l l.length ca rfl a W h (by omega) HSL.out sa)
    have D2 := Lib.hid (fun X vs W (h : LV W X 3 vs [l, m, n]) (hn : vs.length = 3) => Merge_any X vs [l, m, n] 3 3 hn W h (by omega) (by decide) (sm_join3 HSL.out HSM.out HSN.out))
    have D3 := Lib.hid (fun X vs W (h : LV W X 3 vs [l, m, n]) (hn : vs.length = 3) => rMerge_any X vs [l, m, n] 3 3 hn W h (by omega) (by decide) (sm_join3 HSL.out HSM.out HSN.out))
    have D4 := Lib.hid (fun q c W (h : AL W q c l) (k : AL W B cb m) => Minus_any q l l.length c rfl B m m.length cb rfl W h (by omega) HSL.out k (by omega) HSM.out)
    have D5 := Lib.hid (fun W (h : AL W A ca l) (k : AL W B cb m) => rMinus_any A l l.length ca rfl B m m.length cb rfl W h (by omega) HSL.out k (by omega) HSM.out)
    simp only [← hr1, ← hf, ← hgf] at C1 C2
    simp only [← hr2, ← hf] at C3 C4
    simp only [← hz] at C5 C6
    simp only [← hs] at C7 C8
    simp only [← hf] at C9 D1
    simp only [← ht] at D2 D3
    simp only [← hu] at D4 D5
    have hff : (f == f) = true := by simp
    have hgg : (g == g) = true := by simp
    have hzz : (z == z) = true := by simp
    clear hr1 hr2 hf hgf hz hs ht hu hfl sa HSL HSM HSN
    have HLW := Lib.hid (HL.out.bel HB8.out)
    obtain ⟨c0, c1, c2, c3, c4, c5, c6, c7, c8, c9, c10⟩ := hP.cells
    have hd := bel_drew' (Below.refl wr.heap.size wr)
    go_wp2
    go_region_held3 (fun w' => (w'.cell? ⟨w.heap.size, 0, none⟩ = some (.string a.says) ∧ w'.cell? ⟨w.heap.size, 1, none⟩ = some (.string a.pred) ∧ w'.cell? ⟨w.heap.size, 2, none⟩ = some (.int .i64 a.n) ∧ w'.cell? ⟨w.heap.size, 3, none⟩ = some (.bool a.t0.v) ∧ w'.cell? ⟨w.heap.size, 4, none⟩ = some (.string a.t0.name) ∧ w'.cell? ⟨w.heap.size, 5, none⟩ = some (.bool a.t1.v) ∧ w'.cell? ⟨w.heap.size, 6, none⟩ = some (.string a.t1.name) ∧ w'.cell? ⟨w.heap.size, 7, none⟩ = some (.bool a.t2.v) ∧ w'.cell? ⟨w.heap.size, 8, none⟩ = some (.string a.t2.name) ∧ w'.cell? ⟨w.heap.size, 9, none⟩ = some (.bool a.t3.v) ∧ w'.cell? ⟨w.heap.size, 10, none⟩ = some (.string a.t3.name))) (first | exact hP.cells | go_keep | trivial)
      (first | (go_at_call 22; refine (ownA_any A l l.length ca rfl _ (HLW.out.bel hd) (by omega)).mono ?_; rintro e w10 ⟨⟨qo, ko, HO, rfl⟩, hg⟩; replace hP := hP.bel hg; replace hd := hd.trans' hg; clear hg) | (go_at_call 11; refine (C1.out qo ko _ (al_own HO.out)).mono ?_; rintro e w11 ⟨⟨qb, kb, HOb, rfl⟩, hg⟩; replace hP := hP.bel hg; replace hd := hd.trans' hg; clear hg))
    all_goals
      replace HLW := Lib.hid (HLW.out.bel hd)
      replace HB8 := Lib.hid (HB8.out.trans' hd)
      have HTb := Lib.hid (al_own HOb.out)
      clear c0 c1 c2 c3 c4 c5 c6 c7 c8 c9 c10 HO HOb hd C1
      obtain ⟨c0, c1, c2, c3, c4, c5, c6, c7, c8, c9, c10⟩ := hP.cells
      go_wp2_with (fail)
      refine (C2.out _ HLW.out).mono ?_
      rintro e w12 ⟨⟨qc, kc, HOc, rfl⟩, hg⟩
      replace HLW := Lib.hid (HLW.out.bel hg)
      replace HB8 := Lib.hid (HB8.out.trans' hg)
      replace HTb := Lib.hid (HTb.out.bel hg)
      have HTc := Lib.hid (al_own HOc.out)
      replace hP := (hP.bel hg).drew
      clear c0 c1 c2 c3 c4 c5 c6 c7 c8 c9 c10 HOc hg C2
      obtain ⟨c0, c1, c2, c3, c4, c5, c6, c7, c8, c9, c10⟩ := hP.cells
      have hd := bel_drew' (Below.refl w12.heap.size w12)
      go_wp2
      go_region_held3 (fun w' => (w'.cell? ⟨w.heap.size, 0, none⟩ = some (.string a.says) ∧ w'.cell? ⟨w.heap.size, 1, none⟩ = some (.string a.pred) ∧ w'.cell? ⟨w.heap.size, 2, none⟩ = some (.int .i64 a.n) ∧ w'.cell? ⟨w.heap.size, 3, none⟩ = some (.bool a.t0.v) ∧ w'.cell? ⟨w.heap.size, 4, none⟩ = some (.string a.t0.name) ∧ w'.cell? ⟨w.heap.size, 5, none⟩ = some (.bool a.t1.v) ∧ w'.cell? ⟨w.heap.size, 6, none⟩ = some (.string a.t1.name) ∧ w'.cell? ⟨w.heap.size, 7, none⟩ = some (.bool a.t2.v) ∧ w'.cell? ⟨w.heap.size, 8, none⟩ = some (.string a.t2.name) ∧ w'.cell? ⟨w.heap.size, 9, none⟩ = some (.bool a.t3.v) ∧ w'.cell? ⟨w.heap.size, 10, none⟩ = some (.string a.t3.name))) (first | exact hP.cells | go_keep | trivial)
        (first | (go_at_call 22; refine (ownA_any A l l.length ca rfl _ (HLW.out.bel hd) (by omega)).mono ?_; rintro e w13 ⟨⟨qo, ko, HO, rfl⟩, hg⟩; replace hP := hP.bel hg; replace hd := hd.trans' hg; clear hg) | (go_at_call 12; refine (C3.out qo ko _ (al_own HO.out)).mono ?_; rintro e w14 ⟨⟨qd, kd, HOd, rfl⟩, hg⟩; replace hP := hP.bel hg; replace hd := hd.trans' hg; clear hg))
      all_goals
        replace HLW := Lib.hid (HLW.out.bel hd)
        replace HB8 := Lib.hid (HB8.out.trans' hd)
        replace HTb := Lib.hid (HTb.out.bel hd)
        replace HTc := Lib.hid (HTc.out.bel hd)
        have HTd := Lib.hid (al_own HOd.out)
        clear c0 c1 c2 c3 c4 c5 c6 c7 c8 c9 c10 HO HOd hd C3
        obtain ⟨c0, c1, c2, c3, c4, c5, c6, c7, c8, c9, c10⟩ := hP.cells
        go_wp2_with (fail)
        refine (C4.out _ HLW.out).mono ?_
        rintro e w15 ⟨⟨qe, ke, HOe, rfl⟩, hg⟩
        replace HLW := Lib.hid (HLW.out.bel hg)
        replace HB8 := Lib.hid (HB8.out.trans' hg)
        replace HTb := Lib.hid (HTb.out.bel hg)
        replace HTc := Lib.hid (HTc.out.bel hg)
        replace HTd := Lib.hid (HTd.out.bel hg)
        have HTe := Lib.hid (al_own HOe.out)
        have HMW := Lib.hid (HM.out.bel HB8.out)
        have HNW := Lib.hid (HN.out.bel HB8.out)
        replace hP := (hP.bel hg).drew
        clear c0 c1 c2 c3 c4 c5 c6 c7 c8 c9 c10 HOe hg C4 HL HM HN
        obtain ⟨c0, c1, c2, c3, c4, c5, c6, c7, c8, c9, c10⟩ := hP.cells
        have hd := bel_drew' (Below.refl w15.heap.size w15)
        go_wp2_with (fail)
        (try simp only [List.append])
        have HP := Lib.hid hP
        clear hP c0 c1 c2 c3 c4 c5 c6 c7 c8 c9 c10
        replace HTb := Lib.hid (HTb.out.bel hd)
        replace HTc := Lib.hid (HTc.out.bel hd)
        replace HTd := Lib.hid (HTd.out.bel hd)
        replace HTe := Lib.hid (HTe.out.bel hd)
        replace HLW := Lib.hid (HLW.out.bel hd)
        replace HMW := Lib.hid (HMW.out.bel hd)
        replace HNW := Lib.hid (HNW.out.bel hd)
        refine wp_region_held_drew (S := fun w' => (w'.cell? ⟨w.heap.size, 0, none⟩ = some (.string a.says) ∧ w'.cell? ⟨w.heap.size, 1, none⟩ = some (.string a.pred) ∧ w'.cell? ⟨w.heap.size, 2, none⟩ = some (.int .i64 a.n) ∧ w'.cell? ⟨w.heap.size, 3, none⟩ = some (.bool a.t0.v) ∧ w'.cell? ⟨w.heap.size, 4, none⟩ = some (.string a.t0.name) ∧ w'.cell? ⟨w.heap.size, 5, none⟩ = some (.bool a.t1.v) ∧ w'.cell? ⟨w.heap.size, 6, none⟩ = some (.string a.t1.name) ∧ w'.cell? ⟨w.heap.size, 7, none⟩ = some (.bool a.t2.v) ∧ w'.cell? ⟨w.heap.size, 8, none⟩ = some (.string a.t2.name) ∧ w'.cell? ⟨w.heap.size, 9, none⟩ = some (.bool a.t3.v) ∧ w'.cell? ⟨w.heap.size, 10, none⟩ = some (.string a.t3.name))) (by kernel_rfl) (HP.out.cells) (fun hHeld => ?_)
        obtain ⟨wD, hD⟩ : ∃ wz, wz = w15.drew := ⟨_, rfl⟩
        rw [← hD] at HP hd hHeld HTb HTc HTd HTe HLW HMW HNW ⊢
        clear hD
        refine tkmY (v := ?_) 0 mo0 rfl (by as_aux_lemma => kernel_rfl) (by as_aux_lemma => kernel_rfl) (by as_aux_lemma => kernel_rfl) (fun _ _ _ h => h) (by rfl) hHeld ?_ ?_
        rotate_left
        · (unfold mo0; intro w hSw; (try dsimp only at hSw); go_simp)
          all_goals with_reducible rfl
        try simp only [Act.put, List.setIfInBounds_toArray, List.set_cons_zero, List.set_cons_succ]
        refine tkmY (v := ?_) 1 mo1 rfl (by as_aux_lemma => kernel_rfl) (by as_aux_lemma => kernel_rfl) (by as_aux_lemma => kernel_rfl) (fun _ _ _ h => h) (by rfl) hHeld ?_ ?_
        rotate_left
        · (unfold mo1; intro w hSw; (try dsimp only at hSw); go_simp)
          all_goals with_reducible rfl
        try simp only [Act.put, List.setIfInBounds_toArray, List.set_cons_zero, List.set_cons_succ]
        refine wpAnyH_ready (rs := [2]) (by as_aux_lemma => kernel_rfl) (by simp) ?_
        refine (AllReadyH.cons (o := mo2) rfl (fun K hK => ?_) AllReadyH.nil)
        unfold mo2; go_simp
        go_at_call 13
        refine (sameA_any qb r1 r1.length kb rfl qc r1.length kc rfl _ HTb.out HTc.out (by omega)).mono ?_
        rintro e u1 ⟨rfl, hg⟩
        clear HTb HTc
        replace HP := Lib.hid (HP.out.bel hg)
        replace HTd := Lib.hid (HTd.out.bel hg)
        replace HTe := Lib.hid (HTe.out.bel hg)
        replace HLW := Lib.hid (HLW.out.bel hg)
        replace HMW := Lib.hid (HMW.out.bel hg)
        replace HNW := Lib.hid (HNW.out.bel hg)
        replace hd := hd.trans' hg
        clear hg
        first | refine hK.out _ _ ?_ (fun hHeld => ?_) | (go_wp2_with fail; refine hK.out _ _ ?_ (fun hHeld => ?_))
        · (try dsimp only); exact HP.out.cells
        clear hK K
        try simp only [Act.put, List.setIfInBounds_toArray, List.set_cons_zero, List.set_cons_succ]
        refine tkmY (v := ?_) 3 mo3 rfl (by as_aux_lemma => kernel_rfl) (by as_aux_lemma => kernel_rfl) (by as_aux_lemma => kernel_rfl) (fun _ _ _ h => h) (by rfl) hHeld ?_ ?_
        rotate_left
        · (unfold mo3; intro w hSw; (try dsimp only at hSw); go_simp)
          all_goals with_reducible rfl
        try simp only [Act.put, List.setIfInBounds_toArray, List.set_cons_zero, List.set_cons_succ]
        refine tkmY (v := ?_) 4 mo4 rfl (by as_aux_lemma => kernel_rfl) (by as_aux_lemma => kernel_rfl) (by as_aux_lemma => kernel_rfl) (fun _ _ _ h => h) (by rfl) hHeld ?_ ?_
        rotate_left
        · (unfold mo4; intro w hSw; (try dsimp only at hSw); go_simp)
          all_goals with_reducible rfl
        try simp only [Act.put, List.setIfInBounds_toArray, List.set_cons_zero, List.set_cons_succ]
        refine tkmY (v := ?_) 5 mo5 rfl (by as_aux_lemma => kernel_rfl) (by as_aux_lemma => kernel_rfl) (by as_aux_lemma => kernel_rfl) (fun _ _ _ h => h) (by rfl) hHeld ?_ ?_
        rotate_left
        · (unfold mo5; intro w hSw; (try dsimp only at hSw); go_simp)
          all_goals with_reducible rfl
        try simp only [Act.put, List.setIfInBounds_toArray, List.set_cons_zero, List.set_cons_succ]
        refine tkmY (v := ?_) 6 mo6 rfl (by as_aux_lemma => kernel_rfl) (by as_aux_lemma => kernel_rfl) (by as_aux_lemma => kernel_rfl) (fun _ _ _ h => h) (by rfl) hHeld ?_ ?_
        rotate_left
        · (unfold mo6; intro w hSw; (try dsimp only at hSw); go_simp)
          all_goals with_reducible rfl
        try simp only [Act.put, List.setIfInBounds_toArray, List.set_cons_zero, List.set_cons_succ]
        try simp only [hzz, hff, hgg]
        refine tkmY (v := ?_) 7 mo7 rfl (by as_aux_lemma => kernel_rfl) (by as_aux_lemma => kernel_rfl) (by as_aux_lemma => kernel_rfl) (fun _ _ _ h => h) (by rfl) hHeld ?_ ?_
        rotate_left
        · (unfold mo7; intro w hSw; (try dsimp only at hSw); go_simp)
          all_goals with_reducible rfl
        try simp only [Act.put, List.setIfInBounds_toArray, List.set_cons_zero, List.set_cons_succ]
        refine tkmY (v := ?_) 8 mo8 rfl (by as_aux_lemma => kernel_rfl) (by as_aux_lemma => kernel_rfl) (by as_aux_lemma => kernel_rfl) (fun _ _ _ h => h) (by rfl) hHeld ?_ ?_
        rotate_left
        · (unfold mo8; intro w hSw; (try dsimp only at hSw); go_simp)
          all_goals with_reducible rfl
        try simp only [Act.put, List.setIfInBounds_toArray, List.set_cons_zero, List.set_cons_succ]
        refine tkmY (v := ?_) 9 mo9 rfl (by as_aux_lemma => kernel_rfl) (by as_aux_lemma => kernel_rfl) (by as_aux_lemma => kernel_rfl) (fun _ _ _ h => h) (by rfl) hHeld ?_ ?_
        rotate_left
        · (unfold mo9; intro w hSw; (try dsimp only at hSw); go_simp)
          all_goals with_reducible rfl
        try simp only [Act.put, List.setIfInBounds_toArray, List.set_cons_zero, List.set_cons_succ]
        refine tkmY (v := ?_) 10 mo10 rfl (by as_aux_lemma => kernel_rfl) (by as_aux_lemma => kernel_rfl) (by as_aux_lemma => kernel_rfl) (fun _ _ _ h => h) (by rfl) hHeld ?_ ?_
        rotate_left
        · (unfold mo10; intro w hSw; (try dsimp only at hSw); go_simp)
          all_goals with_reducible rfl
        try simp only [Act.put, List.setIfInBounds_toArray, List.set_cons_zero, List.set_cons_succ]
        refine wpAnyH_ready (rs := [11]) (by as_aux_lemma => kernel_rfl) (by simp) ?_
        refine (AllReadyH.cons (o := mo11) rfl (fun K hK => ?_) AllReadyH.nil)
        unfold mo11; go_simp
        go_at_call 13
        refine (sameA_any qd r2 r2.length kd rfl qe r2.length ke rfl _ HTd.out HTe.out (by omega)).mono ?_
        rintro e u2 ⟨rfl, hg⟩
        clear HTd HTe
        replace HP := Lib.hid (HP.out.bel hg)
        replace HLW := Lib.hid (HLW.out.bel hg)
        replace HMW := Lib.hid (HMW.out.bel hg)
        replace HNW := Lib.hid (HNW.out.bel hg)
        replace hd := hd.trans' hg
        clear hg
        first | refine hK.out _ _ ?_ (fun hHeld => ?_) | (go_wp2_with fail; refine hK.out _ _ ?_ (fun hHeld => ?_))
        · (try dsimp only); exact HP.out.cells
        clear hK K
        try simp only [Act.put, List.setIfInBounds_toArray, List.set_cons_zero, List.set_cons_succ]
        refine tkmY (v := ?_) 12 mo12 rfl (by as_aux_lemma => kernel_rfl) (by as_aux_lemma => kernel_rfl) (by as_aux_lemma => kernel_rfl) (fun _ _ _ h => h) (by rfl) hHeld ?_ ?_
        rotate_left
        · (unfold mo12; intro w hSw; (try dsimp only at hSw); go_simp)
          all_goals with_reducible rfl
        try simp only [Act.put, List.setIfInBounds_toArray, List.set_cons_zero, List.set_cons_succ]
        refine tkmY (v := ?_) 13 mo13 rfl (by as_aux_lemma => kernel_rfl) (by as_aux_lemma => kernel_rfl) (by as_aux_lemma => kernel_rfl) (fun _ _ _ h => h) (by rfl) hHeld ?_ ?_
        rotate_left
        · (unfold mo13; intro w hSw; (try dsimp only at hSw); go_simp)
          all_goals with_reducible rfl
        try simp only [Act.put, List.setIfInBounds_toArray, List.set_cons_zero, List.set_cons_succ]
        refine tkmY (v := ?_) 14 mo14 rfl (by as_aux_lemma => kernel_rfl) (by as_aux_lemma => kernel_rfl) (by as_aux_lemma => kernel_rfl) (fun _ _ _ h => h) (by rfl) hHeld ?_ ?_
        rotate_left
        · (unfold mo14; intro w hSw; (try dsimp only at hSw); go_simp)
          all_goals with_reducible rfl
        try simp only [Act.put, List.setIfInBounds_toArray, List.set_cons_zero, List.set_cons_succ]
        refine tkmY (v := ?_) 15 mo15 rfl (by as_aux_lemma => kernel_rfl) (by as_aux_lemma => kernel_rfl) (by as_aux_lemma => kernel_rfl) (fun _ _ _ h => h) (by rfl) hHeld ?_ ?_
        rotate_left
        · (unfold mo15; intro w hSw; (try dsimp only at hSw); go_simp)
          all_goals with_reducible rfl
        try simp only [Act.put, List.setIfInBounds_toArray, List.set_cons_zero, List.set_cons_succ]
        refine tkmY (v := ?_) 16 mo16 rfl (by as_aux_lemma => kernel_rfl) (by as_aux_lemma => kernel_rfl) (by as_aux_lemma => kernel_rfl) (fun _ _ _ h => h) (by rfl) hHeld ?_ ?_
        rotate_left
        · (unfold mo16; intro w hSw; (try dsimp only at hSw); go_simp)
          all_goals with_reducible rfl
        try simp only [Act.put, List.setIfInBounds_toArray, List.set_cons_zero, List.set_cons_succ]
        try simp only [hzz, hff, hgg]
        refine tkmY (v := ?_) 17 mo17 rfl (by as_aux_lemma => kernel_rfl) (by as_aux_lemma => kernel_rfl) (by as_aux_lemma => kernel_rfl) (fun _ _ _ h => h) (by rfl) hHeld ?_ ?_
        rotate_left
        · (unfold mo17; intro w hSw; (try dsimp only at hSw); go_simp)
          all_goals with_reducible rfl
        try simp only [Act.put, List.setIfInBounds_toArray, List.set_cons_zero, List.set_cons_succ]
        refine tkmY (v := ?_) 18 mo18 rfl (by as_aux_lemma => kernel_rfl) (by as_aux_lemma => kernel_rfl) (by as_aux_lemma => kernel_rfl) (fun _ _ _ h => h) (by rfl) hHeld ?_ ?_
        rotate_left
        · (unfold mo18; intro w hSw; (try dsimp only at hSw); go_simp)
          all_goals with_reducible rfl
        try simp only [Act.put, List.setIfInBounds_toArray, List.set_cons_zero, List.set_cons_succ]
        refine tkmY (v := ?_) 19 mo19 rfl (by as_aux_lemma => kernel_rfl) (by as_aux_lemma => kernel_rfl) (by as_aux_lemma => kernel_rfl) (fun _ _ _ h => h) (by rfl) hHeld ?_ ?_
        rotate_left
        · (unfold mo19; intro w hSw; (try dsimp only at hSw); go_simp)
          all_goals with_reducible rfl
        try simp only [Act.put, List.setIfInBounds_toArray, List.set_cons_zero, List.set_cons_succ]
        refine tkmY (v := ?_) 21 mo21 rfl (by as_aux_lemma => kernel_rfl) (by as_aux_lemma => kernel_rfl) (by as_aux_lemma => kernel_rfl) (fun _ _ _ h => h) (by rfl) hHeld ?_ ?_
        rotate_left
        · (unfold mo21; intro w hSw; (try dsimp only at hSw); go_simp)
          all_goals with_reducible rfl
        try simp only [Act.put, List.setIfInBounds_toArray, List.set_cons_zero, List.set_cons_succ]
        refine wpAnyH_ready (rs := [20]) (by as_aux_lemma => kernel_rfl) (by simp) ?_
        refine (AllReadyH.cons (o := mo20) rfl (fun K hK => ?_) AllReadyH.nil)
        unfold mo20; go_simp
        go_at_call 14
        refine (C5.out _ HLW.out).mono ?_
        rintro e u3 ⟨rfl, hg⟩
        replace HP := Lib.hid (HP.out.bel hg)
        replace HLW := Lib.hid (HLW.out.bel hg)
        replace HMW := Lib.hid (HMW.out.bel hg)
        replace HNW := Lib.hid (HNW.out.bel hg)
        replace hd := hd.trans' hg
        clear hg
        first | refine hK.out _ _ ?_ (fun hHeld => ?_) | (go_wp2_with fail; refine hK.out _ _ ?_ (fun hHeld => ?_))
        · (try dsimp only); exact HP.out.cells
        clear hK K
        try simp only [Act.put, List.setIfInBounds_toArray, List.set_cons_zero, List.set_cons_succ]
        refine wpAnyH_ready (rs := [22]) (by as_aux_lemma => kernel_rfl) (by simp) ?_
        refine (AllReadyH.cons (o := mo22) rfl (fun K hK => ?_) AllReadyH.nil)
        unfold mo22; go_simp
        go_at_call 25
        refine (C6.out _ HLW.out).mono ?_
        rintro e u4 ⟨rfl, hg⟩
        replace HP := Lib.hid (HP.out.bel hg)
        replace HLW := Lib.hid (HLW.out.bel hg)
        replace HMW := Lib.hid (HMW.out.bel hg)
        replace HNW := Lib.hid (HNW.out.bel hg)
        replace hd := hd.trans' hg
        clear hg
        first | refine hK.out _ _ ?_ (fun hHeld => ?_) | (go_wp2_with fail; refine hK.out _ _ ?_ (fun hHeld => ?_))
        · (try dsimp only); exact HP.out.cells
        clear hK K
        try simp only [Act.put, List.setIfInBounds_toArray, List.set_cons_zero, List.set_cons_succ]
        refine tkmY (v := ?_) 23 mo23 rfl (by as_aux_lemma => kernel_rfl) (by as_aux_lemma => kernel_rfl) (by as_aux_lemma => kernel_rfl) (fun _ _ _ h => h) (by rfl) hHeld ?_ ?_
        rotate_left
        · (unfold mo23; intro w hSw; (try dsimp only at hSw); go_simp)
          all_goals with_reducible rfl
        try simp only [Act.put, List.setIfInBounds_toArray, List.set_cons_zero, List.set_cons_succ]
        try simp only [hzz, hff, hgg]
        refine tkmY (v := ?_) 24 mo24 rfl (by as_aux_lemma => kernel_rfl) (by as_aux_lemma => kernel_rfl) (by as_aux_lemma => kernel_rfl) (fun _ _ _ h => h) (by rfl) hHeld ?_ ?_
        rotate_left
        · (unfold mo24; intro w hSw; (try dsimp only at hSw); go_simp)
          all_goals with_reducible rfl
        try simp only [Act.put, List.setIfInBounds_toArray, List.set_cons_zero, List.set_cons_succ]
        refine tkmY (v := ?_) 25 mo25 rfl (by as_aux_lemma => kernel_rfl) (by as_aux_lemma => kernel_rfl) (by as_aux_lemma => kernel_rfl) (fun _ _ _ h => h) (by rfl) hHeld ?_ ?_
        rotate_left
        · (unfold mo25; intro w hSw; (try dsimp only at hSw); go_simp)
          all_goals with_reducible rfl
        try simp only [Act.put, List.setIfInBounds_toArray, List.set_cons_zero, List.set_cons_succ]
        refine tkmY (v := ?_) 26 mo26 rfl (by as_aux_lemma => kernel_rfl) (by as_aux_lemma => kernel_rfl) (by as_aux_lemma => kernel_rfl) (fun _ _ _ h => h) (by rfl) hHeld ?_ ?_
        rotate_left
        · (unfold mo26; intro w hSw; (try dsimp only at hSw); go_simp)
          all_goals with_reducible rfl
        try simp only [Act.put, List.setIfInBounds_toArray, List.set_cons_zero, List.set_cons_succ]
        refine tkmY (v := ?_) 29 mo29 rfl (by as_aux_lemma => kernel_rfl) (by as_aux_lemma => kernel_rfl) (by as_aux_lemma => kernel_rfl) (fun _ _ _ h => h) (by rfl) hHeld ?_ ?_
        rotate_left
        · (unfold mo29; intro w hSw; (try dsimp only at hSw); go_simp)
          all_goals with_reducible rfl
        try simp only [Act.put, List.setIfInBounds_toArray, List.set_cons_zero, List.set_cons_succ]
        refine wpAnyH_ready (rs := [27]) (by as_aux_lemma => kernel_rfl) (by simp) ?_
        refine (AllReadyH.cons (o := mo27) rfl (fun K hK => ?_) AllReadyH.nil)
        unfold mo27; go_simp
        go_at_call 22
        refine (ownA_any A l l.length ca rfl _ HLW.out (by omega)).mono ?_
        rintro e u5 ⟨⟨x1q, kx1, HOx, rfl⟩, hg⟩
        replace HP := Lib.hid (HP.out.bel hg)
        replace HLW := Lib.hid (HLW.out.bel hg)
        replace HMW := Lib.hid (HMW.out.bel hg)
        replace HNW := Lib.hid (HNW.out.bel hg)
        replace hd := hd.trans' hg
        clear hg
        have X1 := Lib.hid (al_own HOx.out)
        clear HOx
        first | refine hK.out _ _ ?_ (fun hHeld => ?_) | (go_wp2_with fail; refine hK.out _ _ ?_ (fun hHeld => ?_))
        · (try dsimp only); exact HP.out.cells
        clear hK K
        try simp only [Act.put, List.setIfInBounds_toArray, List.set_cons_zero, List.set_cons_succ]
        refine wpAnyH_ready (rs := [28]) (by as_aux_lemma => kernel_rfl) (by simp) ?_
        refine (AllReadyH.cons (o := mo28) rfl (fun K hK => ?_) AllReadyH.nil)
        unfold mo28; go_simp
        go_at_call 10
        refine (C7.out x1q kx1 _ X1.out).mono ?_
        rintro e u6 ⟨⟨y1q, ky1, HOx, rfl⟩, hg⟩
        clear X1
        replace HP := Lib.hid (HP.out.bel hg)
        replace HLW := Lib.hid (HLW.out.bel hg)
        replace HMW := Lib.hid (HMW.out.bel hg)
        replace HNW := Lib.hid (HNW.out.bel hg)
        replace hd := hd.trans' hg
        clear hg
        have Y1 := Lib.hid (al_own HOx.out)
        clear HOx
        first | refine hK.out _ _ ?_ (fun hHeld => ?_) | (go_wp2_with fail; refine hK.out _ _ ?_ (fun hHeld => ?_))
        · (try dsimp only); exact HP.out.cells
        clear hK K
        try simp only [Act.put, List.setIfInBounds_toArray, List.set_cons_zero, List.set_cons_succ]
        refine wpAnyH_ready (rs := [30]) (by as_aux_lemma => kernel_rfl) (by simp) ?_
        refine (AllReadyH.cons (o := mo30) rfl (fun K hK => ?_) AllReadyH.nil)
        unfold mo30; go_simp
        go_at_call 26
        refine (C8.out _ HLW.out).mono ?_
        rintro e u7 ⟨⟨y2q, ky2, HOx, rfl⟩, hg⟩
        replace HP := Lib.hid (HP.out.bel hg)
        replace HLW := Lib.hid (HLW.out.bel hg)
        replace HMW := Lib.hid (HMW.out.bel hg)
        replace HNW := Lib.hid (HNW.out.bel hg)
        replace Y1 := Lib.hid (Y1.out.bel hg)
        replace hd := hd.trans' hg
        clear hg
        have Y2 := Lib.hid (al_own HOx.out)
        clear HOx
        first | refine hK.out _ _ ?_ (fun hHeld => ?_) | (go_wp2_with fail; refine hK.out _ _ ?_ (fun hHeld => ?_))
        · (try dsimp only); exact HP.out.cells
        clear hK K
        try simp only [Act.put, List.setIfInBounds_toArray, List.set_cons_zero, List.set_cons_succ]
        refine wpAnyH_ready (rs := [31]) (by as_aux_lemma => kernel_rfl) (by simp) ?_
        refine (AllReadyH.cons (o := mo31) rfl (fun K hK => ?_) AllReadyH.nil)
        unfold mo31; go_simp
        go_at_call 13
        refine (sameA_any y1q s s.length ky1 rfl y2q s.length ky2 rfl _ Y1.out Y2.out (by omega)).mono ?_
        rintro e u8 ⟨rfl, hg⟩
        clear Y1 Y2
        replace HP := Lib.hid (HP.out.bel hg)
        replace HLW := Lib.hid (HLW.out.bel hg)
        replace HMW := Lib.hid (HMW.out.bel hg)
        replace HNW := Lib.hid (HNW.out.bel hg)
        replace hd := hd.trans' hg
        clear hg
        first | refine hK.out _ _ ?_ (fun hHeld => ?_) | (go_wp2_with fail; refine hK.out _ _ ?_ (fun hHeld => ?_))
        · (try dsimp only); exact HP.out.cells
        clear hK K
        try simp only [Act.put, List.setIfInBounds_toArray, List.set_cons_zero, List.set_cons_succ]
        refine tkmY (v := ?_) 32 mo32 rfl (by as_aux_lemma => kernel_rfl) (by as_aux_lemma => kernel_rfl) (by as_aux_lemma => kernel_rfl) (fun _ _ _ h => h) (by rfl) hHeld ?_ ?_
        rotate_left
        · (unfold mo32; intro w hSw; (try dsimp only at hSw); go_simp)
          all_goals with_reducible rfl
        try simp only [Act.put, List.setIfInBounds_toArray, List.set_cons_zero, List.set_cons_succ]
        refine tkmY (v := ?_) 33 mo33 rfl (by as_aux_lemma => kernel_rfl) (by as_aux_lemma => kernel_rfl) (by as_aux_lemma => kernel_rfl) (fun _ _ _ h => h) (by rfl) hHeld ?_ ?_
        rotate_left
        · (unfold mo33; intro w hSw; (try dsimp only at hSw); go_simp)
          all_goals with_reducible rfl
        try simp only [Act.put, List.setIfInBounds_toArray, List.set_cons_zero, List.set_cons_succ]
        refine tkmY (v := ?_) 34 mo34 rfl (by as_aux_lemma => kernel_rfl) (by as_aux_lemma => kernel_rfl) (by as_aux_lemma => kernel_rfl) (fun _ _ _ h => h) (by rfl) hHeld ?_ ?_
        rotate_left
        · (unfold mo34; intro w hSw; (try dsimp only at hSw); go_simp)
          all_goals with_reducible rfl
        try simp only [Act.put, List.setIfInBounds_toArray, List.set_cons_zero, List.set_cons_succ]
        refine tkmY (v := ?_) 35 mo35 rfl (by as_aux_lemma => kernel_rfl) (by as_aux_lemma => kernel_rfl) (by as_aux_lemma => kernel_rfl) (fun _ _ _ h => h) (by rfl) hHeld ?_ ?_
        rotate_left
        · (unfold mo35; intro w hSw; (try dsimp only at hSw); go_simp)
          all_goals with_reducible rfl
        try simp only [Act.put, List.setIfInBounds_toArray, List.set_cons_zero, List.set_cons_succ]
        refine tkmY (v := ?_) 37 mo37 rfl (by as_aux_lemma => kernel_rfl) (by as_aux_lemma => kernel_rfl) (by as_aux_lemma => kernel_rfl) (fun _ _ _ h => h) (by rfl) hHeld ?_ ?_
        rotate_left
        · (unfold mo37; intro w hSw; (try dsimp only at hSw); go_simp)
          all_goals with_reducible rfl
        try simp only [Act.put, List.setIfInBounds_toArray, List.set_cons_zero, List.set_cons_succ]
        refine tkmY (v := ?_) 38 mo38 rfl (by as_aux_lemma => kernel_rfl) (by as_aux_lemma => kernel_rfl) (by as_aux_lemma => kernel_rfl) (fun _ _ _ h => h) (by rfl) hHeld ?_ ?_
        rotate_left
        · (unfold mo38; intro w hSw; (try dsimp only at hSw); go_simp)
          all_goals with_reducible rfl
        try simp only [Act.put, List.setIfInBounds_toArray, List.set_cons_zero, List.set_cons_succ]
        refine wpAnyH_ready (rs := [36]) (by as_aux_lemma => kernel_rfl) (by simp) ?_
        refine (AllReadyH.cons (o := mo36) rfl (fun K hK => ?_) AllReadyH.nil)
        unfold mo36; go_simp
        go_at_call 15
        refine (C9.out _ HLW.out).mono ?_
        rintro e u9 ⟨rfl, hg⟩
        replace HP := Lib.hid (HP.out.bel hg)
        replace HLW := Lib.hid (HLW.out.bel hg)
        replace HMW := Lib.hid (HMW.out.bel hg)
        replace HNW := Lib.hid (HNW.out.bel hg)
        replace hd := hd.trans' hg
        clear hg
        first | refine hK.out _ _ ?_ (fun hHeld => ?_) | (go_wp2_with fail; refine hK.out _ _ ?_ (fun hHeld => ?_))
        · (try dsimp only); exact HP.out.cells
        clear hK K
        try simp only [Act.put, List.setIfInBounds_toArray, List.set_cons_zero, List.set_cons_succ]
        refine wpAnyH_ready (rs := [39]) (by as_aux_lemma => kernel_rfl) (by simp) ?_
        refine (AllReadyH.cons (o := mo39) rfl (fun K hK => ?_) AllReadyH.nil)
        unfold mo39; go_simp
        go_at_call 27
        refine (D1.out _ HLW.out).mono ?_
        rintro e u10 ⟨rfl, hg⟩
        replace HP := Lib.hid (HP.out.bel hg)
        replace HLW := Lib.hid (HLW.out.bel hg)
        replace HMW := Lib.hid (HMW.out.bel hg)
        replace HNW := Lib.hid (HNW.out.bel hg)
        replace hd := hd.trans' hg
        clear hg
        first | refine hK.out _ _ ?_ (fun hHeld => ?_) | (go_wp2_with fail; refine hK.out _ _ ?_ (fun hHeld => ?_))
        · (try dsimp only); exact HP.out.cells
        clear hK K
        try simp only [Act.put, List.setIfInBounds_toArray, List.set_cons_zero, List.set_cons_succ]
        refine tkmY (v := ?_) 40 mo40 rfl (by as_aux_lemma => kernel_rfl) (by as_aux_lemma => kernel_rfl) (by as_aux_lemma => kernel_rfl) (fun _ _ _ h => h) (by rfl) hHeld ?_ ?_
        rotate_left
        · (unfold mo40; intro w hSw; (try dsimp only at hSw); go_simp)
          all_goals with_reducible rfl
        try simp only [Act.put, List.setIfInBounds_toArray, List.set_cons_zero, List.set_cons_succ]
        try simp only [hzz, hff, hgg]
        refine tkmY (v := ?_) 41 mo41 rfl (by as_aux_lemma => kernel_rfl) (by as_aux_lemma => kernel_rfl) (by as_aux_lemma => kernel_rfl) (fun _ _ _ h => h) (by rfl) hHeld ?_ ?_
        rotate_left
        · (unfold mo41; intro w hSw; (try dsimp only at hSw); go_simp)
          all_goals with_reducible rfl
        try simp only [Act.put, List.setIfInBounds_toArray, List.set_cons_zero, List.set_cons_succ]
        refine tkmY (v := ?_) 42 mo42 rfl (by as_aux_lemma => kernel_rfl) (by as_aux_lemma => kernel_rfl) (by as_aux_lemma => kernel_rfl) (fun _ _ _ h => h) (by rfl) hHeld ?_ ?_
        rotate_left
        · (unfold mo42; intro w hSw; (try dsimp only at hSw); go_simp)
          all_goals with_reducible rfl
        try simp only [Act.put, List.setIfInBounds_toArray, List.set_cons_zero, List.set_cons_succ]
        refine tkmY (v := ?_) 43 mo43 rfl (by as_aux_lemma => kernel_rfl) (by as_aux_lemma => kernel_rfl) (by as_aux_lemma => kernel_rfl) (fun _ _ _ h => h) (by rfl) hHeld ?_ ?_
        rotate_left
        · (unfold mo43; intro w hSw; (try dsimp only at hSw); go_simp)
          all_goals with_reducible rfl
        try simp only [Act.put, List.setIfInBounds_toArray, List.set_cons_zero, List.set_cons_succ]
        refine tkmY (v := ?_) 45 mo45 rfl (by as_aux_lemma => kernel_rfl) (by as_aux_lemma => kernel_rfl) (by as_aux_lemma => kernel_rfl) (fun _ _ _ h => h) (by rfl) hHeld ?_ ?_
        rotate_left
        · (unfold mo45; intro w hSw; (try dsimp only at hSw); go_simp)
          all_goals with_reducible rfl
        try simp only [Act.put, List.setIfInBounds_toArray, List.set_cons_zero, List.set_cons_succ]
        refine tkmY (v := ?_) 47 mo47 rfl (by as_aux_lemma => kernel_rfl) (by as_aux_lemma => kernel_rfl) (by as_aux_lemma => kernel_rfl) (fun _ _ _ h => h) (by rfl) hHeld ?_ ?_
        rotate_left
        · (unfold mo47; intro w hSw; (try dsimp only at hSw); go_simp)
          all_goals with_reducible rfl
        try simp only [Act.put, List.setIfInBounds_toArray, List.set_cons_zero, List.set_cons_succ]
        refine tkmY (v := ?_) 51 mo51 rfl (by as_aux_lemma => kernel_rfl) (by as_aux_lemma => kernel_rfl) (by as_aux_lemma => kernel_rfl) (fun _ _ _ h => h) (by rfl) hHeld ?_ ?_
        rotate_left
        · (unfold mo51; intro w hSw; (try dsimp only at hSw); go_simp)
          all_goals with_reducible rfl
        try simp only [Act.put, List.setIfInBounds_toArray, List.set_cons_zero, List.set_cons_succ]
        refine tkmY (v := ?_) 52 mo52 rfl (by as_aux_lemma => kernel_rfl) (by as_aux_lemma => kernel_rfl) (by as_aux_lemma => kernel_rfl) (fun _ _ _ h => h) (by rfl) hHeld ?_ ?_
        rotate_left
        · (unfold mo52; intro w hSw; (try dsimp only at hSw); go_simp)
          all_goals with_reducible rfl
        try simp only [Act.put, List.setIfInBounds_toArray, List.set_cons_zero, List.set_cons_succ]
        refine tkmY (v := ?_) 53 mo53 rfl (by as_aux_lemma => kernel_rfl) (by as_aux_lemma => kernel_rfl) (by as_aux_lemma => kernel_rfl) (fun _ _ _ h => h) (by rfl) hHeld ?_ ?_
        rotate_left
        · (unfold mo53; intro w hSw; (try dsimp only at hSw); go_simp)
          all_goals with_reducible rfl
        try simp only [Act.put, List.setIfInBounds_toArray, List.set_cons_zero, List.set_cons_succ]
        apply cutL8
        · intro keyC8
          refine wpAnyH_ready (rs := [44, 54]) (by as_aux_lemma => kernel_rfl) (by simp) ?_
          refine (AllReadyH.cons (o := mo44) rfl (fun K hK => ?_) (AllReadyH.cons (o := mo54) rfl (fun K hK => ?_) AllReadyH.nil))
          · skip
            unfold mo44; go_simp
            go_at_call 22
            refine (ownA_any A l l.length ca rfl _ HLW.out (by omega)).mono ?_
            rintro e u11 ⟨⟨x1q, kx1, HOx, rfl⟩, hg⟩
            replace HP := Lib.hid (HP.out.bel hg)
            replace HLW := Lib.hid (HLW.out.bel hg)
            replace HMW := Lib.hid (HMW.out.bel hg)
            replace HNW := Lib.hid (HNW.out.bel hg)
            replace hd := hd.trans' hg
            clear hg
            have X1 := Lib.hid (al_own HOx.out)
            clear HOx
            first | refine hK.out _ _ ?_ (fun hHeld => ?_) | (go_wp2_with fail; refine hK.out _ _ ?_ (fun hHeld => ?_))
            · (try dsimp only); exact HP.out.cells
            clear hK K
            try simp only [Act.put, List.setIfInBounds_toArray, List.set_cons_zero, List.set_cons_succ]
            refine wpAnyH_ready (rs := [46, 54]) (by as_aux_lemma => kernel_rfl) (by simp) ?_
            refine (AllReadyH.cons (o := mo46) rfl (fun K hK => ?_) (AllReadyH.cons (o := mo54) rfl (fun K hK => ?_) AllReadyH.nil))
            · skip
              unfold mo46; go_simp
              go_at_call 22
              refine (ownA_any B m m.length cb rfl _ HMW.out (by omega)).mono ?_
              rintro e u12 ⟨⟨x2q, kx2, HOx, rfl⟩, hg⟩
              replace HP := Lib.hid (HP.out.bel hg)
              replace HLW := Lib.hid (HLW.out.bel hg)
              replace HMW := Lib.hid (HMW.out.bel hg)
              replace HNW := Lib.hid (HNW.out.bel hg)
              replace X1 := Lib.hid (X1.out.bel hg)
              replace hd := hd.trans' hg
              clear hg
              have X2 := Lib.hid (al_own HOx.out)
              clear HOx
              first | refine hK.out _ _ ?_ (fun hHeld => ?_) | (go_wp2_with fail; refine hK.out _ _ ?_ (fun hHeld => ?_))
              · (try dsimp only); exact HP.out.cells
              clear hK K
              try simp only [Act.put, List.setIfInBounds_toArray, List.set_cons_zero, List.set_cons_succ]
              refine wpAnyH_ready (rs := [48, 54]) (by as_aux_lemma => kernel_rfl) (by simp) ?_
              refine (AllReadyH.cons (o := mo48) rfl (fun K hK => ?_) (AllReadyH.cons (o := mo54) rfl (fun K hK => ?_) AllReadyH.nil))
              · skip
                unfold mo48; go_simp
                go_at_call 22
                refine (ownA_any C n n.length cc rfl _ HNW.out (by omega)).mono ?_
                rintro e u13 ⟨⟨x3q, kx3, HOx, rfl⟩, hg⟩
                replace HP := Lib.hid (HP.out.bel hg)
                replace HLW := Lib.hid (HLW.out.bel hg)
                replace HMW := Lib.hid (HMW.out.bel hg)
                replace HNW := Lib.hid (HNW.out.bel hg)
                replace X1 := Lib.hid (X1.out.bel hg)
                replace X2 := Lib.hid (X2.out.bel hg)
                replace hd := hd.trans' hg
                clear hg
                have X3 := Lib.hid (al_own HOx.out)
                clear HOx
                first | refine hK.out _ _ ?_ (fun hHeld => ?_) | (go_wp2_with fail; refine hK.out _ _ ?_ (fun hHeld => ?_))
                · (try dsimp only); exact HP.out.cells
                clear hK K
                try simp only [Act.put, List.setIfInBounds_toArray, List.set_cons_zero, List.set_cons_succ]
                refine wpAnyH_ready (rs := [49, 54]) (by as_aux_lemma => kernel_rfl) (by simp) ?_
                refine (AllReadyH.cons (o := mo49) rfl (fun K hK => ?_) (AllReadyH.cons (o := mo54) rfl (fun K hK => ?_) AllReadyH.nil))
                · skip
                  unfold mo49; go_simp
                  have hg := bel_alloc u13 (.cells #[.slice x1q l.length kx1, .slice x2q m.length kx2, .slice x3q n.length kx3] 29)
                  have hN := heap_alloc_new u13 (.cells #[.slice x1q l.length kx1, .slice x2q m.length kx2, .slice x3q n.length kx3] 29)
                  obtain ⟨u14, hW⟩ : ∃ wz, wz = u13.alloc (.cells #[.slice x1q l.length kx1, .slice x2q m.length kx2, .slice x3q n.length kx3] 29) := ⟨_, rfl⟩
                  rw [← hW] at hg hN ⊢
                  clear hW
                  replace HP := Lib.hid (HP.out.bel hg)
                  replace HLW := Lib.hid (HLW.out.bel hg)
                  replace HMW := Lib.hid (HMW.out.bel hg)
                  replace HNW := Lib.hid (HNW.out.bel hg)
                  replace X1 := Lib.hid (X1.out.bel hg)
                  replace X2 := Lib.hid (X2.out.bel hg)
                  replace X3 := Lib.hid (X3.out.bel hg)
                  replace hd := hd.trans' hg
                  clear hg
                  have HVm := Lib.hid (LV.three hN rfl X1.out rfl X2.out rfl X3.out)
                  clear hN
                  generalize u13.heap.size = z132 at HVm ⊢
                  clear X1 X2 X3
                  first | refine hK.out _ _ ?_ (fun hHeld => ?_) | (go_wp2_with fail; refine hK.out _ _ ?_ (fun hHeld => ?_))
                  · (try dsimp only); exact HP.out.cells
                  clear hK K
                  try simp only [Act.put, List.setIfInBounds_toArray, List.set_cons_zero, List.set_cons_succ]
                  refine wpAnyH_ready (rs := [50, 54]) (by as_aux_lemma => kernel_rfl) (by simp) ?_
                  refine (AllReadyH.cons (o := mo50) rfl (fun K hK => ?_) (AllReadyH.cons (o := mo54) rfl (fun K hK => ?_) AllReadyH.nil))
                  · skip
                    unfold mo50; go_simp
                    go_at_call 16
                    refine (D2.out _ _ _ HVm.out rfl).mono ?_
                    rintro e u15 ⟨⟨y1q, ky1, HOx, rfl⟩, hg⟩
                    clear HVm
                    replace HP := Lib.hid (HP.out.bel hg)
                    replace HLW := Lib.hid (HLW.out.bel hg)
                    replace HMW := Lib.hid (HMW.out.bel hg)
                    replace HNW := Lib.hid (HNW.out.bel hg)
                    replace hd := hd.trans' hg
                    clear hg
                    have Y1 := Lib.hid (al_own HOx.out)
                    clear HOx
                    first | refine hK.out _ _ ?_ (fun hHeld => ?_) | (go_wp2_with fail; refine hK.out _ _ ?_ (fun hHeld => ?_))
                    · (try dsimp only); exact HP.out.cells
                    clear hK K
                    try simp only [Act.put, List.setIfInBounds_toArray, List.set_cons_zero, List.set_cons_succ]
                    refine wpAnyH_ready (rs := [54]) (by as_aux_lemma => kernel_rfl) (by simp) ?_
                    refine (AllReadyH.cons (o := mo54) rfl (fun K hK => ?_) AllReadyH.nil)
                    unfold mo54; go_simp
                    have hg := bel_alloc u15 (.cells #[.slice A l.length ca, .slice B m.length cb, .slice C n.length cc] 29)
                    have hN := heap_alloc_new u15 (.cells #[.slice A l.length ca, .slice B m.length cb, .slice C n.length cc] 29)
                    obtain ⟨u16, hW⟩ : ∃ wz, wz = u15.alloc (.cells #[.slice A l.length ca, .slice B m.length cb, .slice C n.length cc] 29) := ⟨_, rfl⟩
                    rw [← hW] at hg hN ⊢
                    clear hW
                    replace HP := Lib.hid (HP.out.bel hg)
                    replace HLW := Lib.hid (HLW.out.bel hg)
                    replace HMW := Lib.hid (HMW.out.bel hg)
                    replace HNW := Lib.hid (HNW.out.bel hg)
                    replace Y1 := Lib.hid (Y1.out.bel hg)
                    replace hd := hd.trans' hg
                    clear hg
                    have HV := Lib.hid (LV.three hN rfl HLW.out rfl HMW.out rfl HNW.out)
                    clear hN
                    generalize u15.heap.size = z137 at HV ⊢
                    first | refine hK.out _ _ ?_ (fun hHeld => ?_) | (go_wp2_with fail; refine hK.out _ _ ?_ (fun hHeld => ?_))
                    · (try dsimp only); exact HP.out.cells
                    clear hK K
                    try simp only [Act.put, List.setIfInBounds_toArray, List.set_cons_zero, List.set_cons_succ]
                    revert hHeld
                    revert hd
                    revert Y1
                    revert HV
                    revert HMW
                    revert HLW
                    revert HP
                    clear HNW
                    revert u16
                    revert ky1
                    revert y1q
                    revert z137
                    revert z132
                    revert kx3
                    revert x3q
                    revert kx2
                    revert x2q
                    revert kx1
                    revert x1q
                    exact keyC8.out
                  · skip
                    unfold mo54; go_simp
                    have hg := bel_alloc u14 (.cells #[.slice A l.length ca, .slice B m.length cb, .slice C n.length cc] 29)
                    have hN := heap_alloc_new u14 (.cells #[.slice A l.length ca, .slice B m.length cb, .slice C n.length cc] 29)
                    obtain ⟨u17, hW⟩ : ∃ wz, wz = u14.alloc (.cells #[.slice A l.length ca, .slice B m.length cb, .slice C n.length cc] 29) := ⟨_, rfl⟩
                    rw [← hW] at hg hN ⊢
                    clear hW
                    replace HP := Lib.hid (HP.out.bel hg)
                    replace HLW := Lib.hid (HLW.out.bel hg)
                    replace HMW := Lib.hid (HMW.out.bel hg)
                    replace HNW := Lib.hid (HNW.out.bel hg)
                    replace HVm := Lib.hid (HVm.out.bel hg)
                    replace hd := hd.trans' hg
                    clear hg
                    have HV := Lib.hid (LV.three hN rfl HLW.out rfl HMW.out rfl HNW.out)
                    clear hN
                    generalize u14.heap.size = z137 at HV ⊢
                    first | refine hK.out _ _ ?_ (fun hHeld => ?_) | (go_wp2_with fail; refine hK.out _ _ ?_ (fun hHeld => ?_))
                    · (try dsimp only); exact HP.out.cells
                    clear hK K
                    try simp only [Act.put, List.setIfInBounds_toArray, List.set_cons_zero, List.set_cons_succ]
                    refine wpAnyH_ready (rs := [50]) (by as_aux_lemma => kernel_rfl) (by simp) ?_
                    refine (AllReadyH.cons (o := mo50) rfl (fun K hK => ?_) AllReadyH.nil)
                    unfold mo50; go_simp
                    go_at_call 16
                    refine (D2.out _ _ _ HVm.out rfl).mono ?_
                    rintro e u18 ⟨⟨y1q, ky1, HOx, rfl⟩, hg⟩
                    clear HVm
                    replace HP := Lib.hid (HP.out.bel hg)
                    replace HLW := Lib.hid (HLW.out.bel hg)
                    replace HMW := Lib.hid (HMW.out.bel hg)
                    replace HNW := Lib.hid (HNW.out.bel hg)
                    replace HV := Lib.hid (HV.out.bel hg)
                    replace hd := hd.trans' hg
                    clear hg
                    have Y1 := Lib.hid (al_own HOx.out)
                    clear HOx
                    first | refine hK.out _ _ ?_ (fun hHeld => ?_) | (go_wp2_with fail; refine hK.out _ _ ?_ (fun hHeld => ?_))
                    · (try dsimp only); exact HP.out.cells
                    clear hK K
                    try simp only [Act.put, List.setIfInBounds_toArray, List.set_cons_zero, List.set_cons_succ]
                    revert hHeld
                    revert hd
                    revert Y1
                    revert HV
                    revert HMW
                    revert HLW
                    revert HP
                    clear HNW
                    revert u18
                    revert ky1
                    revert y1q
                    revert z137
                    revert z132
                    revert kx3
                    revert x3q
                    revert kx2
                    revert x2q
                    revert kx1
                    revert x1q
                    exact keyC8.out
                · skip
                  unfold mo54; go_simp
                  have hg := bel_alloc u13 (.cells #[.slice A l.length ca, .slice B m.length cb, .slice C n.length cc] 29)
                  have hN := heap_alloc_new u13 (.cells #[.slice A l.length ca, .slice B m.length cb, .slice C n.length cc] 29)
                  obtain ⟨u19, hW⟩ : ∃ wz, wz = u13.alloc (.cells #[.slice A l.length ca, .slice B m.length cb, .slice C n.length cc] 29) := ⟨_, rfl⟩
                  rw [← hW] at hg hN ⊢
                  clear hW
                  replace HP := Lib.hid (HP.out.bel hg)
                  replace HLW := Lib.hid (HLW.out.bel hg)
                  replace HMW := Lib.hid (HMW.out.bel hg)
                  replace HNW := Lib.hid (HNW.out.bel hg)
                  replace X1 := Lib.hid (X1.out.bel hg)
                  replace X2 := Lib.hid (X2.out.bel hg)
                  replace X3 := Lib.hid (X3.out.bel hg)
                  replace hd := hd.trans' hg
                  clear hg
                  have HV := Lib.hid (LV.three hN rfl HLW.out rfl HMW.out rfl HNW.out)
                  clear hN
                  generalize u13.heap.size = z137 at HV ⊢
                  first | refine hK.out _ _ ?_ (fun hHeld => ?_) | (go_wp2_with fail; refine hK.out _ _ ?_ (fun hHeld => ?_))
                  · (try dsimp only); exact HP.out.cells
                  clear hK K
                  try simp only [Act.put, List.setIfInBounds_toArray, List.set_cons_zero, List.set_cons_succ]
                  refine wpAnyH_ready (rs := [49]) (by as_aux_lemma => kernel_rfl) (by simp) ?_
                  refine (AllReadyH.cons (o := mo49) rfl (fun K hK => ?_) AllReadyH.nil)
                  unfold mo49; go_simp
                  have hg := bel_alloc u19 (.cells #[.slice x1q l.length kx1, .slice x2q m.length kx2, .slice x3q n.length kx3] 29)
                  have hN := heap_alloc_new u19 (.cells #[.slice x1q l.length kx1, .slice x2q m.length kx2, .slice x3q n.length kx3] 29)
                  obtain ⟨u20, hW⟩ : ∃ wz, wz = u19.alloc (.cells #[.slice x1q l.length kx1, .slice x2q m.length kx2, .slice x3q n.length kx3] 29) := ⟨_, rfl⟩
                  rw [← hW] at hg hN ⊢
                  clear hW
                  replace HP := Lib.hid (HP.out.bel hg)
                  replace HLW := Lib.hid (HLW.out.bel hg)
                  replace HMW := Lib.hid (HMW.out.bel hg)
                  replace HNW := Lib.hid (HNW.out.bel hg)
                  replace X1 := Lib.hid (X1.out.bel hg)
                  replace X2 := Lib.hid (X2.out.bel hg)
                  replace X3 := Lib.hid (X3.out.bel hg)
                  replace HV := Lib.hid (HV.out.bel hg)
                  replace hd := hd.trans' hg
                  clear hg
                  have HVm := Lib.hid (LV.three hN rfl X1.out rfl X2.out rfl X3.out)
                  clear hN
                  generalize u19.heap.size = z132 at HVm ⊢
                  clear X1 X2 X3
                  first | refine hK.out _ _ ?_ (fun hHeld => ?_) | (go_wp2_with fail; refine hK.out _ _ ?_ (fun hHeld => ?_))
                  · (try dsimp only); exact HP.out.cells
                  clear hK K
                  try simp only [Act.put, List.setIfInBounds_toArray, List.set_cons_zero, List.set_cons_succ]
                  refine wpAnyH_ready (rs := [50]) (by as_aux_lemma => kernel_rfl) (by simp) ?_
                  refine (AllReadyH.cons (o := mo50) rfl (fun K hK => ?_) AllReadyH.nil)
                  unfold mo50; go_simp
                  go_at_call 16
                  refine (D2.out _ _ _ HVm.out rfl).mono ?_
                  rintro e u21 ⟨⟨y1q, ky1, HOx, rfl⟩, hg⟩
                  clear HVm
                  replace HP := Lib.hid (HP.out.bel hg)
                  replace HLW := Lib.hid (HLW.out.bel hg)
                  replace HMW := Lib.hid (HMW.out.bel hg)
                  replace HNW := Lib.hid (HNW.out.bel hg)
                  replace HV := Lib.hid (HV.out.bel hg)
                  replace hd := hd.trans' hg
                  clear hg
                  have Y1 := Lib.hid (al_own HOx.out)
                  clear HOx
                  first | refine hK.out _ _ ?_ (fun hHeld => ?_) | (go_wp2_with fail; refine hK.out _ _ ?_ (fun hHeld => ?_))
                  · (try dsimp only); exact HP.out.cells
                  clear hK K
                  try simp only [Act.put, List.setIfInBounds_toArray, List.set_cons_zero, List.set_cons_succ]
                  revert hHeld
                  revert hd
                  revert Y1
                  revert HV
                  revert HMW
                  revert HLW
                  revert HP
                  clear HNW
                  revert u21
                  revert ky1
                  revert y1q
                  revert z137
                  revert z132
                  revert kx3
                  revert x3q
                  revert kx2
                  revert x2q
                  revert kx1
                  revert x1q
                  exact keyC8.out
              · skip
                unfold mo54; go_simp
                have hg := bel_alloc u12 (.cells #[.slice A l.length ca, .slice B m.length cb, .slice C n.length cc] 29)
                have hN := heap_alloc_new u12 (.cells #[.slice A l.length ca, .slice B m.length cb, .slice C n.length cc] 29)
                obtain ⟨u22, hW⟩ : ∃ wz, wz = u12.alloc (.cells #[.slice A l.length ca, .slice B m.length cb, .slice C n.length cc] 29) := ⟨_, rfl⟩
                rw [← hW] at hg hN ⊢
                clear hW
                replace HP := Lib.hid (HP.out.bel hg)
                replace HLW := Lib.hid (HLW.out.bel hg)
                replace HMW := Lib.hid (HMW.out.bel hg)
                replace HNW := Lib.hid (HNW.out.bel hg)
                replace X1 := Lib.hid (X1.out.bel hg)
                replace X2 := Lib.hid (X2.out.bel hg)
                replace hd := hd.trans' hg
                clear hg
                have HV := Lib.hid (LV.three hN rfl HLW.out rfl HMW.out rfl HNW.out)
                clear hN
                generalize u12.heap.size = z137 at HV ⊢
                first | refine hK.out _ _ ?_ (fun hHeld => ?_) | (go_wp2_with fail; refine hK.out _ _ ?_ (fun hHeld => ?_))
                · (try dsimp only); exact HP.out.cells
                clear hK K
                try simp only [Act.put, List.setIfInBounds_toArray, List.set_cons_zero, List.set_cons_succ]
                refine wpAnyH_ready (rs := [48]) (by as_aux_lemma => kernel_rfl) (by simp) ?_
                refine (AllReadyH.cons (o := mo48) rfl (fun K hK => ?_) AllReadyH.nil)
                unfold mo48; go_simp
                go_at_call 22
                refine (ownA_any C n n.length cc rfl _ HNW.out (by omega)).mono ?_
                rintro e u23 ⟨⟨x3q, kx3, HOx, rfl⟩, hg⟩
                replace HP := Lib.hid (HP.out.bel hg)
                replace HLW := Lib.hid (HLW.out.bel hg)
                replace HMW := Lib.hid (HMW.out.bel hg)
                replace HNW := Lib.hid (HNW.out.bel hg)
                replace X1 := Lib.hid (X1.out.bel hg)
                replace X2 := Lib.hid (X2.out.bel hg)
                replace HV := Lib.hid (HV.out.bel hg)
                replace hd := hd.trans' hg
                clear hg
                have X3 := Lib.hid (al_own HOx.out)
                clear HOx
                first | refine hK.out _ _ ?_ (fun hHeld => ?_) | (go_wp2_with fail; refine hK.out _ _ ?_ (fun hHeld => ?_))
                · (try dsimp only); exact HP.out.cells
                clear hK K
                try simp only [Act.put, List.setIfInBounds_toArray, List.set_cons_zero, List.set_cons_succ]
                refine wpAnyH_ready (rs := [49]) (by as_aux_lemma => kernel_rfl) (by simp) ?_
                refine (AllReadyH.cons (o := mo49) rfl (fun K hK => ?_) AllReadyH.nil)
                unfold mo49; go_simp
                have hg := bel_alloc u23 (.cells #[.slice x1q l.length kx1, .slice x2q m.length kx2, .slice x3q n.length kx3] 29)
                have hN := heap_alloc_new u23 (.cells #[.slice x1q l.length kx1, .slice x2q m.length kx2, .slice x3q n.length kx3] 29)
                obtain ⟨u24, hW⟩ : ∃ wz, wz = u23.alloc (.cells #[.slice x1q l.length kx1, .slice x2q m.length kx2, .slice x3q n.length kx3] 29) := ⟨_, rfl⟩
                rw [← hW] at hg hN ⊢
                clear hW
                replace HP := Lib.hid (HP.out.bel hg)
                replace HLW := Lib.hid (HLW.out.bel hg)
                replace HMW := Lib.hid (HMW.out.bel hg)
                replace HNW := Lib.hid (HNW.out.bel hg)
                replace X1 := Lib.hid (X1.out.bel hg)
                replace X2 := Lib.hid (X2.out.bel hg)
                replace HV := Lib.hid (HV.out.bel hg)
                replace X3 := Lib.hid (X3.out.bel hg)
                replace hd := hd.trans' hg
                clear hg
                have HVm := Lib.hid (LV.three hN rfl X1.out rfl X2.out rfl X3.out)
                clear hN
                generalize u23.heap.size = z132 at HVm ⊢
                clear X1 X2 X3
                first | refine hK.out _ _ ?_ (fun hHeld => ?_) | (go_wp2_with fail; refine hK.out _ _ ?_ (fun hHeld => ?_))
                · (try dsimp only); exact HP.out.cells
                clear hK K
                try simp only [Act.put, List.setIfInBounds_toArray, List.set_cons_zero, List.set_cons_succ]
                refine wpAnyH_ready (rs := [50]) (by as_aux_lemma => kernel_rfl) (by simp) ?_
                refine (AllReadyH.cons (o := mo50) rfl (fun K hK => ?_) AllReadyH.nil)
                unfold mo50; go_simp
                go_at_call 16
                refine (D2.out _ _ _ HVm.out rfl).mono ?_
                rintro e u25 ⟨⟨y1q, ky1, HOx, rfl⟩, hg⟩
                clear HVm
                replace HP := Lib.hid (HP.out.bel hg)
                replace HLW := Lib.hid (HLW.out.bel hg)
                replace HMW := Lib.hid (HMW.out.bel hg)
                replace HNW := Lib.hid (HNW.out.bel hg)
                replace HV := Lib.hid (HV.out.bel hg)
                replace hd := hd.trans' hg
                clear hg
                have Y1 := Lib.hid (al_own HOx.out)
                clear HOx
                first | refine hK.out _ _ ?_ (fun hHeld => ?_) | (go_wp2_with fail; refine hK.out _ _ ?_ (fun hHeld => ?_))
                · (try dsimp only); exact HP.out.cells
                clear hK K
                try simp only [Act.put, List.setIfInBounds_toArray, List.set_cons_zero, List.set_cons_succ]
                revert hHeld
                revert hd
                revert Y1
                revert HV
                revert HMW
                revert HLW
                revert HP
                clear HNW
                revert u25
                revert ky1
                revert y1q
                revert z137
                revert z132
                revert kx3
                revert x3q
                revert kx2
                revert x2q
                revert kx1
                revert x1q
                exact keyC8.out
            · skip
              unfold mo54; go_simp
              have hg := bel_alloc u11 (.cells #[.slice A l.length ca, .slice B m.length cb, .slice C n.length cc] 29)
              have hN := heap_alloc_new u11 (.cells #[.slice A l.length ca, .slice B m.length cb, .slice C n.length cc] 29)
              obtain ⟨u26, hW⟩ : ∃ wz, wz = u11.alloc (.cells #[.slice A l.length ca, .slice B m.length cb, .slice C n.length cc] 29) := ⟨_, rfl⟩
              rw [← hW] at hg hN ⊢
              clear hW
              replace HP := Lib.hid (HP.out.bel hg)
              replace HLW := Lib.hid (HLW.out.bel hg)
              replace HMW := Lib.hid (HMW.out.bel hg)
              replace HNW := Lib.hid (HNW.out.bel hg)
              replace X1 := Lib.hid (X1.out.bel hg)
              replace hd := hd.trans' hg
              clear hg
              have HV := Lib.hid (LV.three hN rfl HLW.out rfl HMW.out rfl HNW.out)
              clear hN
              generalize u11.heap.size = z137 at HV ⊢
              first | refine hK.out _ _ ?_ (fun hHeld => ?_) | (go_wp2_with fail; refine hK.out _ _ ?_ (fun hHeld => ?_))
              · (try dsimp only); exact HP.out.cells
              clear hK K
              try simp only [Act.put, List.setIfInBounds_toArray, List.set_cons_zero, List.set_cons_succ]
              refine wpAnyH_ready (rs := [46]) (by as_aux_lemma => kernel_rfl) (by simp) ?_
              refine (AllReadyH.cons (o := mo46) rfl (fun K hK => ?_) AllReadyH.nil)
              unfold mo46; go_simp
              go_at_call 22
              refine (ownA_any B m m.length cb rfl _ HMW.out (by omega)).mono ?_
              rintro e u27 ⟨⟨x2q, kx2, HOx, rfl⟩, hg⟩
              replace HP := Lib.hid (HP.out.bel hg)
              replace HLW := Lib.hid (HLW.out.bel hg)
              replace HMW := Lib.hid (HMW.out.bel hg)
              replace HNW := Lib.hid (HNW.out.bel hg)
              replace X1 := Lib.hid (X1.out.bel hg)
              replace HV := Lib.hid (HV.out.bel hg)
              replace hd := hd.trans' hg
              clear hg
              have X2 := Lib.hid (al_own HOx.out)
              clear HOx
              first | refine hK.out _ _ ?_ (fun hHeld => ?_) | (go_wp2_with fail; refine hK.out _ _ ?_ (fun hHeld => ?_))
              · (try dsimp only); exact HP.out.cells
              clear hK K
              try simp only [Act.put, List.setIfInBounds_toArray, List.set_cons_zero, List.set_cons_succ]
              refine wpAnyH_ready (rs := [48]) (by as_aux_lemma => kernel_rfl) (by simp) ?_
              refine (AllReadyH.cons (o := mo48) rfl (fun K hK => ?_) AllReadyH.nil)
              unfold mo48; go_simp
              go_at_call 22
              refine (ownA_any C n n.length cc rfl _ HNW.out (by omega)).mono ?_
              rintro e u28 ⟨⟨x3q, kx3, HOx, rfl⟩, hg⟩
              replace HP := Lib.hid (HP.out.bel hg)
              replace HLW := Lib.hid (HLW.out.bel hg)
              replace HMW := Lib.hid (HMW.out.bel hg)
              replace HNW := Lib.hid (HNW.out.bel hg)
              replace X1 := Lib.hid (X1.out.bel hg)
              replace HV := Lib.hid (HV.out.bel hg)
              replace X2 := Lib.hid (X2.out.bel hg)
              replace hd := hd.trans' hg
              clear hg
              have X3 := Lib.hid (al_own HOx.out)
              clear HOx
              first | refine hK.out _ _ ?_ (fun hHeld => ?_) | (go_wp2_with fail; refine hK.out _ _ ?_ (fun hHeld => ?_))
              · (try dsimp only); exact HP.out.cells
              clear hK K
              try simp only [Act.put, List.setIfInBounds_toArray, List.set_cons_zero, List.set_cons_succ]
              refine wpAnyH_ready (rs := [49]) (by as_aux_lemma => kernel_rfl) (by simp) ?_
              refine (AllReadyH.cons (o := mo49) rfl (fun K hK => ?_) AllReadyH.nil)
              unfold mo49; go_simp
              have hg := bel_alloc u28 (.cells #[.slice x1q l.length kx1, .slice x2q m.length kx2, .slice x3q n.length kx3] 29)
              have hN := heap_alloc_new u28 (.cells #[.slice x1q l.length kx1, .slice x2q m.length kx2, .slice x3q n.length kx3] 29)
              obtain ⟨u29, hW⟩ : ∃ wz, wz = u28.alloc (.cells #[.slice x1q l.length kx1, .slice x2q m.length kx2, .slice x3q n.length kx3] 29) := ⟨_, rfl⟩
              rw [← hW] at hg hN ⊢
              clear hW
              replace HP := Lib.hid (HP.out.bel hg)
              replace HLW := Lib.hid (HLW.out.bel hg)
              replace HMW := Lib.hid (HMW.out.bel hg)
              replace HNW := Lib.hid (HNW.out.bel hg)
              replace X1 := Lib.hid (X1.out.bel hg)
              replace HV := Lib.hid (HV.out.bel hg)
              replace X2 := Lib.hid (X2.out.bel hg)
              replace X3 := Lib.hid (X3.out.bel hg)
              replace hd := hd.trans' hg
              clear hg
              have HVm := Lib.hid (LV.three hN rfl X1.out rfl X2.out rfl X3.out)
              clear hN
              generalize u28.heap.size = z132 at HVm ⊢
              clear X1 X2 X3
              first | refine hK.out _ _ ?_ (fun hHeld => ?_) | (go_wp2_with fail; refine hK.out _ _ ?_ (fun hHeld => ?_))
              · (try dsimp only); exact HP.out.cells
              clear hK K
              try simp only [Act.put, List.setIfInBounds_toArray, List.set_cons_zero, List.set_cons_succ]
              refine wpAnyH_ready (rs := [50]) (by as_aux_lemma => kernel_rfl) (by simp) ?_
              refine (AllReadyH.cons (o := mo50) rfl (fun K hK => ?_) AllReadyH.nil)
              unfold mo50; go_simp
              go_at_call 16
              refine (D2.out _ _ _ HVm.out rfl).mono ?_
              rintro e u30 ⟨⟨y1q, ky1, HOx, rfl⟩, hg⟩
              clear HVm
              replace HP := Lib.hid (HP.out.bel hg)
              replace HLW := Lib.hid (HLW.out.bel hg)
              replace HMW := Lib.hid (HMW.out.bel hg)
              replace HNW := Lib.hid (HNW.out.bel hg)
              replace HV := Lib.hid (HV.out.bel hg)
              replace hd := hd.trans' hg
              clear hg
              have Y1 := Lib.hid (al_own HOx.out)
              clear HOx
              first | refine hK.out _ _ ?_ (fun hHeld => ?_) | (go_wp2_with fail; refine hK.out _ _ ?_ (fun hHeld => ?_))
              · (try dsimp only); exact HP.out.cells
              clear hK K
              try simp only [Act.put, List.setIfInBounds_toArray, List.set_cons_zero, List.set_cons_succ]
              revert hHeld
              revert hd
              revert Y1
              revert HV
              revert HMW
              revert HLW
              revert HP
              clear HNW
              revert u30
              revert ky1
              revert y1q
              revert z137
              revert z132
              revert kx3
              revert x3q
              revert kx2
              revert x2q
              revert kx1
              revert x1q
              exact keyC8.out
          · skip
            unfold mo54; go_simp
            have hg := bel_alloc u10 (.cells #[.slice A l.length ca, .slice B m.length cb, .slice C n.length cc] 29)
            have hN := heap_alloc_new u10 (.cells #[.slice A l.length ca, .slice B m.length cb, .slice C n.length cc] 29)
            obtain ⟨u31, hW⟩ : ∃ wz, wz = u10.alloc (.cells #[.slice A l.length ca, .slice B m.length cb, .slice C n.length cc] 29) := ⟨_, rfl⟩
            rw [← hW] at hg hN ⊢
            clear hW
            replace HP := Lib.hid (HP.out.bel hg)
            replace HLW := Lib.hid (HLW.out.bel hg)
            replace HMW := Lib.hid (HMW.out.bel hg)
            replace HNW := Lib.hid (HNW.out.bel hg)
            replace hd := hd.trans' hg
            clear hg
            have HV := Lib.hid (LV.three hN rfl HLW.out rfl HMW.out rfl HNW.out)
            clear hN
            generalize u10.heap.size = z137 at HV ⊢
            first | refine hK.out _ _ ?_ (fun hHeld => ?_) | (go_wp2_with fail; refine hK.out _ _ ?_ (fun hHeld => ?_))
            · (try dsimp only); exact HP.out.cells
            clear hK K
            try simp only [Act.put, List.setIfInBounds_toArray, List.set_cons_zero, List.set_cons_succ]
            refine wpAnyH_ready (rs := [44]) (by as_aux_lemma => kernel_rfl) (by simp) ?_
            refine (AllReadyH.cons (o := mo44) rfl (fun K hK => ?_) AllReadyH.nil)
            unfold mo44; go_simp
            go_at_call 22
            refine (ownA_any A l l.length ca rfl _ HLW.out (by omega)).mono ?_
            rintro e u32 ⟨⟨x1q, kx1, HOx, rfl⟩, hg⟩
            replace HP := Lib.hid (HP.out.bel hg)
            replace HLW := Lib.hid (HLW.out.bel hg)
            replace HMW := Lib.hid (HMW.out.bel hg)
            replace HNW := Lib.hid (HNW.out.bel hg)
            replace HV := Lib.hid (HV.out.bel hg)
            replace hd := hd.trans' hg
            clear hg
            have X1 := Lib.hid (al_own HOx.out)
            clear HOx
            first | refine hK.out _ _ ?_ (fun hHeld => ?_) | (go_wp2_with fail; refine hK.out _ _ ?_ (fun hHeld => ?_))
            · (try dsimp only); exact HP.out.cells
            clear hK K
            try simp only [Act.put, List.setIfInBounds_toArray, List.set_cons_zero, List.set_cons_succ]
            refine wpAnyH_ready (rs := [46]) (by as_aux_lemma => kernel_rfl) (by simp) ?_
            refine (AllReadyH.cons (o := mo46) rfl (fun K hK => ?_) AllReadyH.nil)
            unfold mo46; go_simp
            go_at_call 22
            refine (ownA_any B m m.length cb rfl _ HMW.out (by omega)).mono ?_
            rintro e u33 ⟨⟨x2q, kx2, HOx, rfl⟩, hg⟩
            replace HP := Lib.hid (HP.out.bel hg)
            replace HLW := Lib.hid (HLW.out.bel hg)
            replace HMW := Lib.hid (HMW.out.bel hg)
            replace HNW := Lib.hid (HNW.out.bel hg)
            replace HV := Lib.hid (HV.out.bel hg)
            replace X1 := Lib.hid (X1.out.bel hg)
            replace hd := hd.trans' hg
            clear hg
            have X2 := Lib.hid (al_own HOx.out)
            clear HOx
            first | refine hK.out _ _ ?_ (fun hHeld => ?_) | (go_wp2_with fail; refine hK.out _ _ ?_ (fun hHeld => ?_))
            · (try dsimp only); exact HP.out.cells
            clear hK K
            try simp only [Act.put, List.setIfInBounds_toArray, List.set_cons_zero, List.set_cons_succ]
            refine wpAnyH_ready (rs := [48]) (by as_aux_lemma => kernel_rfl) (by simp) ?_
            refine (AllReadyH.cons (o := mo48) rfl (fun K hK => ?_) AllReadyH.nil)
            unfold mo48; go_simp
            go_at_call 22
            refine (ownA_any C n n.length cc rfl _ HNW.out (by omega)).mono ?_
            rintro e u34 ⟨⟨x3q, kx3, HOx, rfl⟩, hg⟩
            replace HP := Lib.hid (HP.out.bel hg)
            replace HLW := Lib.hid (HLW.out.bel hg)
            replace HMW := Lib.hid (HMW.out.bel hg)
            replace HNW := Lib.hid (HNW.out.bel hg)
            replace HV := Lib.hid (HV.out.bel hg)
            replace X1 := Lib.hid (X1.out.bel hg)
            replace X2 := Lib.hid (X2.out.bel hg)
            replace hd := hd.trans' hg
            clear hg
            have X3 := Lib.hid (al_own HOx.out)
            clear HOx
            first | refine hK.out _ _ ?_ (fun hHeld => ?_) | (go_wp2_with fail; refine hK.out _ _ ?_ (fun hHeld => ?_))
            · (try dsimp only); exact HP.out.cells
            clear hK K
            try simp only [Act.put, List.setIfInBounds_toArray, List.set_cons_zero, List.set_cons_succ]
            refine wpAnyH_ready (rs := [49]) (by as_aux_lemma => kernel_rfl) (by simp) ?_
            refine (AllReadyH.cons (o := mo49) rfl (fun K hK => ?_) AllReadyH.nil)
            unfold mo49; go_simp
            have hg := bel_alloc u34 (.cells #[.slice x1q l.length kx1, .slice x2q m.length kx2, .slice x3q n.length kx3] 29)
            have hN := heap_alloc_new u34 (.cells #[.slice x1q l.length kx1, .slice x2q m.length kx2, .slice x3q n.length kx3] 29)
            obtain ⟨u35, hW⟩ : ∃ wz, wz = u34.alloc (.cells #[.slice x1q l.length kx1, .slice x2q m.length kx2, .slice x3q n.length kx3] 29) := ⟨_, rfl⟩
            rw [← hW] at hg hN ⊢
            clear hW
            replace HP := Lib.hid (HP.out.bel hg)
            replace HLW := Lib.hid (HLW.out.bel hg)
            replace HMW := Lib.hid (HMW.out.bel hg)
            replace HNW := Lib.hid (HNW.out.bel hg)
            replace HV := Lib.hid (HV.out.bel hg)
            replace X1 := Lib.hid (X1.out.bel hg)
            replace X2 := Lib.hid (X2.out.bel hg)
            replace X3 := Lib.hid (X3.out.bel hg)
            replace hd := hd.trans' hg
            clear hg
            have HVm := Lib.hid (LV.three hN rfl X1.out rfl X2.out rfl X3.out)
            clear hN
            generalize u34.heap.size = z132 at HVm ⊢
            clear X1 X2 X3
            first | refine hK.out _ _ ?_ (fun hHeld => ?_) | (go_wp2_with fail; refine hK.out _ _ ?_ (fun hHeld => ?_))
            · (try dsimp only); exact HP.out.cells
            clear hK K
            try simp only [Act.put, List.setIfInBounds_toArray, List.set_cons_zero, List.set_cons_succ]
            refine wpAnyH_ready (rs := [50]) (by as_aux_lemma => kernel_rfl) (by simp) ?_
            refine (AllReadyH.cons (o := mo50) rfl (fun K hK => ?_) AllReadyH.nil)
            unfold mo50; go_simp
            go_at_call 16
            refine (D2.out _ _ _ HVm.out rfl).mono ?_
            rintro e u36 ⟨⟨y1q, ky1, HOx, rfl⟩, hg⟩
            clear HVm
            replace HP := Lib.hid (HP.out.bel hg)
            replace HLW := Lib.hid (HLW.out.bel hg)
            replace HMW := Lib.hid (HMW.out.bel hg)
            replace HNW := Lib.hid (HNW.out.bel hg)
            replace HV := Lib.hid (HV.out.bel hg)
            replace hd := hd.trans' hg
            clear hg
            have Y1 := Lib.hid (al_own HOx.out)
            clear HOx
            first | refine hK.out _ _ ?_ (fun hHeld => ?_) | (go_wp2_with fail; refine hK.out _ _ ?_ (fun hHeld => ?_))
            · (try dsimp only); exact HP.out.cells
            clear hK K
            try simp only [Act.put, List.setIfInBounds_toArray, List.set_cons_zero, List.set_cons_succ]
            revert hHeld
            revert hd
            revert Y1
            revert HV
            revert HMW
            revert HLW
            revert HP
            clear HNW
            revert u36
            revert ky1
            revert y1q
            revert z137
            revert z132
            revert kx3
            revert x3q
            revert kx2
            revert x2q
            revert kx1
            revert x1q
            exact keyC8.out
        · as_aux_lemma =>
            intro x1q kx1 x2q kx2 x3q kx3 z132 z137 y1q ky1 wC HP HLW HMW HV Y1 hd hHeld
            refine wpAnyH_ready (rs := [55]) (by as_aux_lemma => kernel_rfl) (by simp) ?_
            refine (AllReadyH.cons (o := mo55) rfl (fun K hK => ?_) AllReadyH.nil)
            unfold mo55; go_simp
            go_at_call 28
            refine (D3.out _ _ _ HV.out rfl).mono ?_
            rintro e u37 ⟨⟨y2q, ky2, HOx, rfl⟩, hg⟩
            clear HV
            replace HP := Lib.hid (HP.out.bel hg)
            replace HLW := Lib.hid (HLW.out.bel hg)
            replace HMW := Lib.hid (HMW.out.bel hg)
            replace Y1 := Lib.hid (Y1.out.bel hg)
            replace hd := hd.trans' hg
            clear hg
            have Y2 := Lib.hid (al_own HOx.out)
            clear HOx
            first | refine hK.out _ _ ?_ (fun hHeld => ?_) | (go_wp2_with fail; refine hK.out _ _ ?_ (fun hHeld => ?_))
            · (try dsimp only); exact HP.out.cells
            clear hK K
            try simp only [Act.put, List.setIfInBounds_toArray, List.set_cons_zero, List.set_cons_succ]
            refine wpAnyH_ready (rs := [56]) (by as_aux_lemma => kernel_rfl) (by simp) ?_
            refine (AllReadyH.cons (o := mo56) rfl (fun K hK => ?_) AllReadyH.nil)
            unfold mo56; go_simp
            go_at_call 13
            refine (sameA_any y1q t t.length ky1 rfl y2q t.length ky2 rfl _ Y1.out Y2.out (by omega)).mono ?_
            rintro e u38 ⟨rfl, hg⟩
            clear Y1 Y2
            replace HP := Lib.hid (HP.out.bel hg)
            replace HLW := Lib.hid (HLW.out.bel hg)
            replace HMW := Lib.hid (HMW.out.bel hg)
            replace hd := hd.trans' hg
            clear hg
            first | refine hK.out _ _ ?_ (fun hHeld => ?_) | (go_wp2_with fail; refine hK.out _ _ ?_ (fun hHeld => ?_))
            · (try dsimp only); exact HP.out.cells
            clear hK K
            try simp only [Act.put, List.setIfInBounds_toArray, List.set_cons_zero, List.set_cons_succ]
            refine tkmY (v := ?_) 57 mo57 rfl (by as_aux_lemma => kernel_rfl) (by as_aux_lemma => kernel_rfl) (by as_aux_lemma => kernel_rfl) (fun _ _ _ h => h) (by rfl) hHeld ?_ ?_
            rotate_left
            · (unfold mo57; intro w hSw; (try dsimp only at hSw); go_simp)
              all_goals with_reducible rfl
            try simp only [Act.put, List.setIfInBounds_toArray, List.set_cons_zero, List.set_cons_succ]
            refine tkmY (v := ?_) 58 mo58 rfl (by as_aux_lemma => kernel_rfl) (by as_aux_lemma => kernel_rfl) (by as_aux_lemma => kernel_rfl) (fun _ _ _ h => h) (by rfl) hHeld ?_ ?_
            rotate_left
            · (unfold mo58; intro w hSw; (try dsimp only at hSw); go_simp)
              all_goals with_reducible rfl
            try simp only [Act.put, List.setIfInBounds_toArray, List.set_cons_zero, List.set_cons_succ]
            refine tkmY (v := ?_) 59 mo59 rfl (by as_aux_lemma => kernel_rfl) (by as_aux_lemma => kernel_rfl) (by as_aux_lemma => kernel_rfl) (fun _ _ _ h => h) (by rfl) hHeld ?_ ?_
            rotate_left
            · (unfold mo59; intro w hSw; (try dsimp only at hSw); go_simp)
              all_goals with_reducible rfl
            try simp only [Act.put, List.setIfInBounds_toArray, List.set_cons_zero, List.set_cons_succ]
            refine tkmY (v := ?_) 61 mo61 rfl (by as_aux_lemma => kernel_rfl) (by as_aux_lemma => kernel_rfl) (by as_aux_lemma => kernel_rfl) (fun _ _ _ h => h) (by rfl) hHeld ?_ ?_
            rotate_left
            · (unfold mo61; intro w hSw; (try dsimp only at hSw); go_simp)
              all_goals with_reducible rfl
            try simp only [Act.put, List.setIfInBounds_toArray, List.set_cons_zero, List.set_cons_succ]
            refine tkmY (v := ?_) 63 mo63 rfl (by as_aux_lemma => kernel_rfl) (by as_aux_lemma => kernel_rfl) (by as_aux_lemma => kernel_rfl) (fun _ _ _ h => h) (by rfl) hHeld ?_ ?_
            rotate_left
            · (unfold mo63; intro w hSw; (try dsimp only at hSw); go_simp)
              all_goals with_reducible rfl
            try simp only [Act.put, List.setIfInBounds_toArray, List.set_cons_zero, List.set_cons_succ]
            refine tkmY (v := ?_) 64 mo64 rfl (by as_aux_lemma => kernel_rfl) (by as_aux_lemma => kernel_rfl) (by as_aux_lemma => kernel_rfl) (fun _ _ _ h => h) (by rfl) hHeld ?_ ?_
            rotate_left
            · (unfold mo64; intro w hSw; (try dsimp only at hSw); go_simp)
              all_goals with_reducible rfl
            try simp only [Act.put, List.setIfInBounds_toArray, List.set_cons_zero, List.set_cons_succ]
            refine wpAnyH_ready (rs := [60]) (by as_aux_lemma => kernel_rfl) (by simp) ?_
            refine (AllReadyH.cons (o := mo60) rfl (fun K hK => ?_) AllReadyH.nil)
            unfold mo60; go_simp
            go_at_call 22
            refine (ownA_any A l l.length ca rfl _ HLW.out (by omega)).mono ?_
            rintro e u39 ⟨⟨x1q, kx1, HOx, rfl⟩, hg⟩
            replace HP := Lib.hid (HP.out.bel hg)
            replace HLW := Lib.hid (HLW.out.bel hg)
            replace HMW := Lib.hid (HMW.out.bel hg)
            replace hd := hd.trans' hg
            clear hg
            have X1 := Lib.hid (al_own HOx.out)
            clear HOx
            first | refine hK.out _ _ ?_ (fun hHeld => ?_) | (go_wp2_with fail; refine hK.out _ _ ?_ (fun hHeld => ?_))
            · (try dsimp only); exact HP.out.cells
            clear hK K
            try simp only [Act.put, List.setIfInBounds_toArray, List.set_cons_zero, List.set_cons_succ]
            refine wpAnyH_ready (rs := [62]) (by as_aux_lemma => kernel_rfl) (by simp) ?_
            refine (AllReadyH.cons (o := mo62) rfl (fun K hK => ?_) AllReadyH.nil)
            unfold mo62; go_simp
            go_at_call 17
            refine (D4.out x1q kx1 _ X1.out HMW.out).mono ?_
            rintro e u40 ⟨⟨y1q, ky1, HOx, rfl⟩, hg⟩
            clear X1
            replace HP := Lib.hid (HP.out.bel hg)
            replace HLW := Lib.hid (HLW.out.bel hg)
            replace HMW := Lib.hid (HMW.out.bel hg)
            replace hd := hd.trans' hg
            clear hg
            have Y1 := Lib.hid (al_own HOx.out)
            clear HOx
            first | refine hK.out _ _ ?_ (fun hHeld => ?_) | (go_wp2_with fail; refine hK.out _ _ ?_ (fun hHeld => ?_))
            · (try dsimp only); exact HP.out.cells
            clear hK K
            try simp only [Act.put, List.setIfInBounds_toArray, List.set_cons_zero, List.set_cons_succ]
            refine wpAnyH_ready (rs := [65]) (by as_aux_lemma => kernel_rfl) (by simp) ?_
            refine (AllReadyH.cons (o := mo65) rfl (fun K hK => ?_) AllReadyH.nil)
            unfold mo65; go_simp
            go_at_call 29
            refine (D5.out _ HLW.out HMW.out).mono ?_
            rintro e u41 ⟨⟨y2q, ky2, HOx, rfl⟩, hg⟩
            replace HP := Lib.hid (HP.out.bel hg)
            replace HLW := Lib.hid (HLW.out.bel hg)
            replace HMW := Lib.hid (HMW.out.bel hg)
            replace Y1 := Lib.hid (Y1.out.bel hg)
            replace hd := hd.trans' hg
            clear hg
            have Y2 := Lib.hid (al_own HOx.out)
            clear HOx
            first | refine hK.out _ _ ?_ (fun hHeld => ?_) | (go_wp2_with fail; refine hK.out _ _ ?_ (fun hHeld => ?_))
            · (try dsimp only); exact HP.out.cells
            clear hK K
            try simp only [Act.put, List.setIfInBounds_toArray, List.set_cons_zero, List.set_cons_succ]
            refine wpAnyH_ready (rs := [66]) (by as_aux_lemma => kernel_rfl) (by simp) ?_
            refine (AllReadyH.cons (o := mo66) rfl (fun K hK => ?_) AllReadyH.nil)
            unfold mo66; go_simp
            go_at_call 13
            refine (sameA_any y1q u u.length ky1 rfl y2q u.length ky2 rfl _ Y1.out Y2.out (by omega)).mono ?_
            rintro e u42 ⟨rfl, hg⟩
            clear Y1 Y2
            replace HP := Lib.hid (HP.out.bel hg)
            replace HLW := Lib.hid (HLW.out.bel hg)
            replace HMW := Lib.hid (HMW.out.bel hg)
            replace hd := hd.trans' hg
            clear hg
            first | refine hK.out _ _ ?_ (fun hHeld => ?_) | (go_wp2_with fail; refine hK.out _ _ ?_ (fun hHeld => ?_))
            · (try dsimp only); exact HP.out.cells
            clear hK K
            try simp only [Act.put, List.setIfInBounds_toArray, List.set_cons_zero, List.set_cons_succ]
            refine tkmY (v := ?_) 67 mo67 rfl (by as_aux_lemma => kernel_rfl) (by as_aux_lemma => kernel_rfl) (by as_aux_lemma => kernel_rfl) (fun _ _ _ h => h) (by rfl) hHeld ?_ ?_
            rotate_left
            · (unfold mo67; intro w hSw; (try dsimp only at hSw); go_simp)
              all_goals with_reducible rfl
            try simp only [Act.put, List.setIfInBounds_toArray, List.set_cons_zero, List.set_cons_succ]
            refine tkmY (v := ?_) 68 mo68 rfl (by as_aux_lemma => kernel_rfl) (by as_aux_lemma => kernel_rfl) (by as_aux_lemma => kernel_rfl) (fun _ _ _ h => h) (by rfl) hHeld ?_ ?_
            rotate_left
            · (unfold mo68; intro w hSw; (try dsimp only at hSw); go_simp)
              all_goals with_reducible rfl
            try simp only [Act.put, List.setIfInBounds_toArray, List.set_cons_zero, List.set_cons_succ]
            refine wpAnyH_done (by kernel_rfl) ?_ _
            go_wp2
            go_ret
            exact ⟨rfl, HB8.out.trans' hd⟩
end Go.Proofs.Ytamghlneoglfnaa
