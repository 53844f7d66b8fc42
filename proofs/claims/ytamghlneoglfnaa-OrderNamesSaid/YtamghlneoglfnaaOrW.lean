/-
  The law OrderNames. Condition: none.
-/
import Derived.Test.YtamghlneoglfnaaOrV
namespace Go.Proofs.Ytamghlneoglfnaa
open Go.RowKit

def bob8 : ByteArray := ⟨#[98, 111, 98]⟩
def X8 : AtomD := atV pr7 [va]
def Y8 : AtomD := atV pr7 [vb]
def Z8 : AtomD := storedD bob8 pr7 ([va].map nameD)
def eqL : List AtomD → List AtomD → Bool
  | [], [] => true
  | x :: l, y :: m => eqA x y && eqL l m
  | _, _ => false
theorem eqL_of : ∀ {l m : List AtomD}, eqL l m = true → l = m
  | [], [], _ => rfl
  | [], _ :: _, h => by cases h
  | _ :: _, [], h => by cases h
  | x :: l, y :: m, h => by
    unfold eqL at h
    rw [Bool.and_eq_true] at h
    rw [(eqA_iff _ _).1 h.1, eqL_of h.2]
theorem n8_1 : sortedD [Z8, X8, Y8, X8] = [X8, Y8, Z8] := eqL_of (by decide +kernel)
theorem n8_2 : addD [X8] Z8 = [X8, Z8] := eqL_of (by decide +kernel)
theorem n8_3 : addD [X8, Y8, Z8] Y8 = [X8, Y8, Z8] := eqL_of (by decide +kernel)
theorem n8_4 : removeD [X8, Y8, Z8] Y8 = [X8, Z8] := eqL_of (by decide +kernel)
theorem n8_5 : removeD [X8, Z8] Y8 = [X8, Z8] := eqL_of (by decide +kernel)
theorem n8_6 : sortedD ([X8, Z8] ++ ([] ++ ([Y8] ++ [X8, Z8]))) = [X8, Y8, Z8] := eqL_of (by decide +kernel)
theorem n8_7 : minusD [X8, Y8, Z8] [X8, Z8] = [Y8] := eqL_of (by decide +kernel)
theorem n8_8 : isD [X8, Y8, Z8] = true := isD_yes (n8_1 ▸ sorted_ascA _)
theorem n8_9 : isD [X8, X8] = false := isD_no (fun h => by
  have := (asc_consA.1 h).1 X8 (by simp)
  rw [ltA_irr] at this; cases this)
theorem n8_10 : hasK [X8] Z8 = false := by decide +kernel
theorem n8_11 : hasK [X8, Y8, Z8] Y8 = true := by decide +kernel
theorem n8_12 : hasK [X8, Z8] Y8 = false := by decide +kernel
theorem n8_13 : hasK [X8, Y8, Z8] Z8 = true := by decide +kernel
theorem smX : AtomSm X8 := smV _ _ (by decide) (by decide) (by decide +kernel)
theorem smY : AtomSm Y8 := smV _ _ (by decide) (by decide) (by decide +kernel)
theorem smZ : AtomSm Z8 := by
  have h := smX
  exact ⟨(by decide : bob8.size ≤ 1000), h.pred, h.t0, h.t1, h.t2, h.t3⟩
theorem kB8 (cs : List ByteArray) (n : Nat) (vs : Array Value) (hv : vs = (cs.map Value.string).toArray) (hn : cs.length = n) (h4 : cs.length ≤ 4) (hne : cs.all (fun x => decide (0 < x.size)) = true) (w : World) : Calls Try.prog 9 #[.string bob8, .string pr7, .slice (some ⟨w.heap.size, 0, none⟩) n n] (w.alloc (.cells vs 9)) fun e w' => (∃ q, RowKit.Hid (q = storedD bob8 pr7 (cs.map nameD)) ∧ e = .returned (.agg #[.string q.says, .string q.pred, .int .i64 q.n, .bool q.t0.v, .string q.t0.name, .bool q.t1.v, .string q.t1.name, .bool q.t2.v, .string q.t2.name, .bool q.t3.v, .string q.t3.name])) ∧ Bel w w' := by
  subst hn hv
  have hl := listAt_lits w 9 (cs.map Value.string).toArray
  simp only [List.size_toArray, List.length_map] at hl
  refine (kAn_any bob8 pr7 (some ⟨w.heap.size, 0, none⟩) cs cs.length _ hl h4 (fun x hx => by simpa using List.all_eq_true.1 hne x hx)).mono ?_
  rintro e w' ⟨h, hg⟩
  exact ⟨h, (bel_alloc _ _).trans' hg⟩
theorem three_at {w W : World} {q : Option Addr} {c : Nat} {l : List AtomD} (h : OA w W q c l) (h0 : 0 < l.length) : ∃ g, q = some ⟨g, 0, none⟩ ∧ l.length ≤ c := by
  obtain ⟨g, cap, e, hgo, hgl, hc, _⟩ := row_value h.row h0
  injection e with e1 e2 e3
  subst e3
  exact ⟨g, e1, hc⟩
theorem LV.four {w : World} {g : Nat} {A : Option Addr} {n ca : Nat} {l : List AtomD} {B : Option Addr} {m cb : Nat} {k : List AtomD} {C : Option Addr} {p cc : Nat} {q : List AtomD} {D : Option Addr} {t cd : Nat} {r : List AtomD} (h : w.heap[g]? = some (.cells #[.slice A n ca, .slice B m cb, .slice C p cc, .slice D t cd] 29 (0, 0))) (hn : l.length = n) (hL : AL w A ca l) (hm : k.length = m) (hM : AL w B cb k) (hp : q.length = p) (hP : AL w C cc q) (ht : r.length = t) (hT : AL w D cd r) : LV w (some ⟨g, 0, none⟩) 4 [(A, n, ca), (B, m, cb), (C, p, cc), (D, t, cd)] [l, k, q, r] := by
  refine LV.of_block (vs := [(A, n, ca), (B, m, cb), (C, p, cc), (D, t, cd)]) h rfl fun j h1 h2 => ?_
  obtain rfl | rfl | rfl | rfl : j = 0 ∨ j = 1 ∨ j = 2 ∨ j = 3 := by simp at h1; omega
  · exact ⟨hn, hL⟩
  · exact ⟨hm, hM⟩
  · exact ⟨hp, hP⟩
  · exact ⟨ht, hT⟩
theorem al_lit (W : World) (l : List AtomD) (cs : Array Value) (hcs : cs.toList = flatL encA l) (g : Nat) (hg : W.heap.size = g) : AL (W.alloc (.cells cs 27)) (some ⟨g, 0, none⟩) l.length l := by
  subst hg
  exact SliceAt.lit EA W 27 l cs hcs
theorem bel_al_drew (w : World) (o : Obj) : Bel w.drew (w.alloc o).drew :=
  ⟨rfl, rfl, rfl, (bel_alloc w o).size, fun k hk => (bel_alloc w o).block k hk⟩
theorem merge4_any (qo : Option Addr) (co : Nat) (x y z : AtomD) (W : World) (hO : AL W qo co [x, z]) (hM : ∀ A vs W', LV W' A 4 vs [[x, z], [], [y], [x, z]] → vs.length = 4 → Calls Try.prog 16 #[.slice A 4 4] W' fun e w' => (∃ q c, RowKit.Hid (OA W' w' q c [x, y, z]) ∧ e = .returned (.slice q [x, y, z].length c)) ∧ Bel W' w') :
    Calls Try.prog 16 #[.slice (some ⟨W.heap.size + 1, 0, none⟩) 4 4] ((W.alloc (.cells #[.string y.says, .string y.pred, .int .i64 y.n, .bool y.t0.v, .string y.t0.name, .bool y.t1.v, .string y.t1.name, .bool y.t2.v, .string y.t2.name, .bool y.t3.v, .string y.t3.name] 27)).alloc (.cells #[.slice qo 2 co, .slice none 0 0, .slice (some ⟨W.heap.size, 0, none⟩) 1 1, .slice qo 2 co] 29)) fun e w' => (∃ q c, RowKit.Hid (OA W w' q c [x, y, z]) ∧ e = .returned (.slice q 3 c)) ∧ Bel W w' := by
  have hk1 := bel_alloc W (.cells #[.string y.says, .string y.pred, .int .i64 y.n, .bool y.t0.v, .string y.t0.name, .bool y.t1.v, .string y.t1.name, .bool y.t2.v, .string y.t2.name, .bool y.t3.v, .string y.t3.name] 27)
  have hk2 := bel_alloc (W.alloc (.cells #[.string y.says, .string y.pred, .int .i64 y.n, .bool y.t0.v, .string y.t0.name, .bool y.t1.v, .string y.t1.name, .bool y.t2.v, .string y.t2.name, .bool y.t3.v, .string y.t3.name] 27)) (.cells #[.slice qo 2 co, .slice none 0 0, .slice (some ⟨W.heap.size, 0, none⟩) 1 1, .slice qo 2 co] 29)
  have hk3 := heap_alloc_new (W.alloc (.cells #[.string y.says, .string y.pred, .int .i64 y.n, .bool y.t0.v, .string y.t0.name, .bool y.t1.v, .string y.t1.name, .bool y.t2.v, .string y.t2.name, .bool y.t3.v, .string y.t3.name] 27)) (.cells #[.slice qo 2 co, .slice none 0 0, .slice (some ⟨W.heap.size, 0, none⟩) 1 1, .slice qo 2 co] 29)
  rw [show (W.alloc (.cells #[.string y.says, .string y.pred, .int .i64 y.n, .bool y.t0.v, .string y.t0.name, .bool y.t1.v, .string y.t1.name, .bool y.t2.v, .string y.t2.name, .bool y.t3.v, .string y.t3.name] 27)).heap.size = W.heap.size + 1 by simp] at hk3
  have hV := LV.four hk3 (l := [x, z]) rfl ((hO.bel hk1).bel hk2) (k := []) rfl (SliceAt.mkNil _) (q := [y]) rfl ((SliceAt.lit EA W 27 [y] #[.string y.says, .string y.pred, .int .i64 y.n, .bool y.t0.v, .string y.t0.name, .bool y.t1.v, .string y.t1.name, .bool y.t2.v, .string y.t2.name, .bool y.t3.v, .string y.t3.name] rfl).bel hk2) (r := [x, z]) rfl ((hO.bel hk1).bel hk2)
  refine (hM _ _ _ hV rfl).mono ?_
  rintro e w' ⟨⟨q, c, HO, rfl⟩, hg⟩
  have hB := (hk1.trans' hk2).trans' hg
  exact ⟨⟨q, c, Lib.hid ⟨HO.out.row, hB, fun j h => by have := HO.out.new j h; have := (hk1.trans' hk2).size; omega⟩, rfl⟩, hB⟩
theorem tkmO {P : Program} {ops : Array Oper} {Q : Exit → Act → World → Prop} {md : Region.Mode} {S : World → Prop} (i : Nat) (oi : Oper) {v : Value} {fuel : Nat} {listed : Array Bool} {a : Act} {w : World} (hi : ops[i]? = some oi)
    (hs : Region.noSelect ops = true) (hf : Region.free md ops listed i = true) (hr : (Region.ready md ops listed).contains i = true)
    (hQ : ∀ c a w, Q (.panic c) (a.put oi.dst v) w → Q (.panic c) a w) (hw : Region.wanted oi (yielded ops a.tmps) = true) (hS : S w)
    (hy : ∀ w, S w → (execOp a.eval oi).run P w = .ok (.value v) w)
    (h : wpAnyH P md ops Q S fuel (listed.setIfInBounds i true) (a.put oi.dst v) w) : wpAnyH P md ops Q S (fuel + 1) listed a w :=
  wpAnyH_take hi hs hf hr hQ (Or.inl ⟨hw, hy⟩) hS h
abbrev mo0 : Oper := { dst := some 52, op := Go.Op.move (Go.Operand.tmp 4), type := 29, pos := "law.go:29", after := #[], guard := none }
abbrev mo1 : Oper := { dst := some 53, op := Go.Op.load 27 (Go.Operand.tmp 1), type := 27, pos := "law.go:29", after := #[], guard := none }
abbrev mo2 : Oper := { dst := some 54, op := Go.Op.load 27 (Go.Operand.tmp 2), type := 27, pos := "law.go:29", after := #[], guard := none }
abbrev mo3 : Oper := { dst := some 55, op := Go.Op.load 27 (Go.Operand.tmp 3), type := 27, pos := "law.go:29", after := #[], guard := none }
abbrev mo4 : Oper := { dst := some 56, op := Go.Op.buildSlice 29 3 #[(0, Go.Operand.tmp 53), (1, Go.Operand.tmp 54), (2, Go.Operand.tmp 55)], type := 29, pos := "law.go:29", after := #[{ on := 1, ground := Go.Ground.data }, { on := 2, ground := Go.Ground.data }, { on := 3, ground := Go.Ground.data }], guard := none }
abbrev mo5 : Oper := { dst := some 57, op := Go.Op.call { callee := Go.Callee.value (Go.Operand.func 13), args := #[Go.Operand.tmp 52, Go.Operand.tmp 56], argTypes := #[29, 29] }, type := 4, pos := "law.go:29", after := #[{ on := 0, ground := Go.Ground.data }, { on := 4, ground := Go.Ground.data }], guard := none }
abbrev mo6 : Oper := { dst := some 58, op := Go.Op.move (Go.Operand.tmp 57), type := 4, pos := "law.go:29", after := #[{ on := 5, ground := Go.Ground.data }, { on := 5, ground := Go.Ground.chain }], guard := none }
abbrev mo7 : Oper := { dst := some 59, op := Go.Op.move (Go.Operand.tmp 4), type := 29, pos := "law.go:29", after := #[{ on := 6, ground := Go.Ground.guard }], guard := some (6, true) }
abbrev mo8 : Oper := { dst := some 60, op := Go.Op.call { callee := Go.Callee.value (Go.Operand.func 14), args := #[Go.Operand.tmp 59], argTypes := #[29] }, type := 4, pos := "law.go:29", after := #[{ on := 7, ground := Go.Ground.data }, { on := 6, ground := Go.Ground.chain }, { on := 6, ground := Go.Ground.guard }], guard := some (6, true) }
abbrev mo9 : Oper := { dst := some 61, op := Go.Op.pick (Go.Operand.tmp 58) (Go.Operand.tmp 60) (Go.Operand.const (Go.Value.bool false)), type := 4, pos := "law.go:29", after := #[{ on := 6, ground := Go.Ground.data }, { on := 8, ground := Go.Ground.data }], guard := none }
abbrev mo10 : Oper := { dst := some 62, op := Go.Op.move (Go.Operand.tmp 61), type := 4, pos := "law.go:29", after := #[{ on := 9, ground := Go.Ground.data }, { on := 8, ground := Go.Ground.chain }], guard := none }
abbrev mo11 : Oper := { dst := some 63, op := Go.Op.load 27 (Go.Operand.tmp 1), type := 27, pos := "law.go:29", after := #[{ on := 10, ground := Go.Ground.guard }], guard := some (10, true) }
abbrev mo12 : Oper := { dst := some 64, op := Go.Op.load 27 (Go.Operand.tmp 1), type := 27, pos := "law.go:29", after := #[{ on := 10, ground := Go.Ground.guard }], guard := some (10, true) }
abbrev mo13 : Oper := { dst := some 65, op := Go.Op.buildSlice 29 2 #[(0, Go.Operand.tmp 63), (1, Go.Operand.tmp 64)], type := 29, pos := "law.go:29", after := #[{ on := 11, ground := Go.Ground.data }, { on := 12, ground := Go.Ground.data }, { on := 10, ground := Go.Ground.guard }], guard := some (10, true) }
abbrev mo14 : Oper := { dst := some 66, op := Go.Op.call { callee := Go.Callee.value (Go.Operand.func 14), args := #[Go.Operand.tmp 65], argTypes := #[29] }, type := 4, pos := "law.go:29", after := #[{ on := 13, ground := Go.Ground.data }, { on := 10, ground := Go.Ground.chain }, { on := 10, ground := Go.Ground.guard }], guard := some (10, true) }
abbrev mo15 : Oper := { dst := some 67, op := Go.Op.unOp Go.UnOp.not 4 (Go.Operand.tmp 66), type := 4, pos := "law.go:29", after := #[{ on := 14, ground := Go.Ground.data }, { on := 10, ground := Go.Ground.guard }], guard := some (10, true) }
abbrev mo16 : Oper := { dst := some 68, op := Go.Op.pick (Go.Operand.tmp 62) (Go.Operand.tmp 67) (Go.Operand.const (Go.Value.bool false)), type := 4, pos := "law.go:29", after := #[{ on := 10, ground := Go.Ground.data }, { on := 15, ground := Go.Ground.data }], guard := none }
abbrev mo17 : Oper := { dst := some 69, op := Go.Op.move (Go.Operand.tmp 68), type := 4, pos := "law.go:29", after := #[{ on := 16, ground := Go.Ground.data }, { on := 14, ground := Go.Ground.chain }], guard := none }
abbrev mo18 : Oper := { dst := some 70, op := Go.Op.move (Go.Operand.tmp 6), type := 4, pos := "law.go:29", after := #[{ on := 17, ground := Go.Ground.guard }], guard := some (17, true) }
abbrev mo19 : Oper := { dst := some 71, op := Go.Op.pick (Go.Operand.tmp 69) (Go.Operand.tmp 70) (Go.Operand.const (Go.Value.bool false)), type := 4, pos := "law.go:29", after := #[{ on := 17, ground := Go.Ground.data }, { on := 18, ground := Go.Ground.data }], guard := none }
abbrev mo20 : Oper := { dst := some 72, op := Go.Op.move (Go.Operand.tmp 71), type := 4, pos := "law.go:29", after := #[{ on := 19, ground := Go.Ground.data }, { on := 17, ground := Go.Ground.chain }], guard := none }
abbrev mo21 : Oper := { dst := some 73, op := Go.Op.move (Go.Operand.tmp 5), type := 29, pos := "law.go:29", after := #[{ on := 20, ground := Go.Ground.guard }], guard := some (20, true) }
abbrev mo22 : Oper := { dst := some 74, op := Go.Op.load 27 (Go.Operand.tmp 1), type := 27, pos := "law.go:29", after := #[{ on := 20, ground := Go.Ground.guard }], guard := some (20, true) }
abbrev mo23 : Oper := { dst := some 75, op := Go.Op.load 27 (Go.Operand.tmp 3), type := 27, pos := "law.go:29", after := #[{ on := 20, ground := Go.Ground.guard }], guard := some (20, true) }
abbrev mo24 : Oper := { dst := some 76, op := Go.Op.buildSlice 29 2 #[(0, Go.Operand.tmp 74), (1, Go.Operand.tmp 75)], type := 29, pos := "law.go:29", after := #[{ on := 22, ground := Go.Ground.data }, { on := 23, ground := Go.Ground.data }, { on := 20, ground := Go.Ground.guard }], guard := some (20, true) }
abbrev mo25 : Oper := { dst := some 77, op := Go.Op.call { callee := Go.Callee.value (Go.Operand.func 13), args := #[Go.Operand.tmp 73, Go.Operand.tmp 76], argTypes := #[29, 29] }, type := 4, pos := "law.go:29", after := #[{ on := 21, ground := Go.Ground.data }, { on := 24, ground := Go.Ground.data }, { on := 20, ground := Go.Ground.chain }, { on := 20, ground := Go.Ground.guard }], guard := some (20, true) }
abbrev mo26 : Oper := { dst := some 78, op := Go.Op.pick (Go.Operand.tmp 72) (Go.Operand.tmp 77) (Go.Operand.const (Go.Value.bool false)), type := 4, pos := "law.go:29", after := #[{ on := 20, ground := Go.Ground.data }, { on := 25, ground := Go.Ground.data }], guard := none }
abbrev mo27 : Oper := { dst := some 79, op := Go.Op.move (Go.Operand.tmp 78), type := 4, pos := "law.go:29", after := #[{ on := 26, ground := Go.Ground.data }, { on := 25, ground := Go.Ground.chain }], guard := none }
abbrev mo28 : Oper := { dst := some 80, op := Go.Op.move (Go.Operand.tmp 8), type := 4, pos := "law.go:29", after := #[{ on := 27, ground := Go.Ground.guard }], guard := some (27, true) }
abbrev mo29 : Oper := { dst := some 81, op := Go.Op.unOp Go.UnOp.not 4 (Go.Operand.tmp 80), type := 4, pos := "law.go:29", after := #[{ on := 28, ground := Go.Ground.data }, { on := 27, ground := Go.Ground.guard }], guard := some (27, true) }
abbrev mo30 : Oper := { dst := some 82, op := Go.Op.pick (Go.Operand.tmp 79) (Go.Operand.tmp 81) (Go.Operand.const (Go.Value.bool false)), type := 4, pos := "law.go:29", after := #[{ on := 27, ground := Go.Ground.data }, { on := 29, ground := Go.Ground.data }], guard := none }
abbrev mo31 : Oper := { dst := some 83, op := Go.Op.move (Go.Operand.tmp 82), type := 4, pos := "law.go:29", after := #[{ on := 30, ground := Go.Ground.data }, { on := 27, ground := Go.Ground.chain }], guard := none }
abbrev mo32 : Oper := { dst := some 84, op := Go.Op.move (Go.Operand.tmp 7), type := 29, pos := "law.go:29", after := #[{ on := 31, ground := Go.Ground.guard }], guard := some (31, true) }
abbrev mo33 : Oper := { dst := some 85, op := Go.Op.move (Go.Operand.tmp 4), type := 29, pos := "law.go:29", after := #[{ on := 31, ground := Go.Ground.guard }], guard := some (31, true) }
abbrev mo34 : Oper := { dst := some 86, op := Go.Op.call { callee := Go.Callee.value (Go.Operand.func 13), args := #[Go.Operand.tmp 84, Go.Operand.tmp 85], argTypes := #[29, 29] }, type := 4, pos := "law.go:29", after := #[{ on := 32, ground := Go.Ground.data }, { on := 33, ground := Go.Ground.data }, { on := 31, ground := Go.Ground.chain }, { on := 31, ground := Go.Ground.guard }], guard := some (31, true) }
abbrev mo35 : Oper := { dst := some 87, op := Go.Op.pick (Go.Operand.tmp 83) (Go.Operand.tmp 86) (Go.Operand.const (Go.Value.bool false)), type := 4, pos := "law.go:29", after := #[{ on := 31, ground := Go.Ground.data }, { on := 34, ground := Go.Ground.data }], guard := none }
abbrev mo36 : Oper := { dst := some 88, op := Go.Op.move (Go.Operand.tmp 87), type := 4, pos := "law.go:29", after := #[{ on := 35, ground := Go.Ground.data }, { on := 34, ground := Go.Ground.chain }], guard := none }
abbrev mo37 : Oper := { dst := some 89, op := Go.Op.move (Go.Operand.tmp 10), type := 4, pos := "law.go:29", after := #[{ on := 36, ground := Go.Ground.guard }], guard := some (36, true) }
abbrev mo38 : Oper := { dst := some 90, op := Go.Op.pick (Go.Operand.tmp 88) (Go.Operand.tmp 89) (Go.Operand.const (Go.Value.bool false)), type := 4, pos := "law.go:29", after := #[{ on := 36, ground := Go.Ground.data }, { on := 37, ground := Go.Ground.data }], guard := none }
abbrev mo39 : Oper := { dst := some 91, op := Go.Op.move (Go.Operand.tmp 90), type := 4, pos := "law.go:29", after := #[{ on := 38, ground := Go.Ground.data }, { on := 36, ground := Go.Ground.chain }], guard := none }
abbrev mo40 : Oper := { dst := some 92, op := Go.Op.move (Go.Operand.tmp 9), type := 29, pos := "law.go:29", after := #[{ on := 39, ground := Go.Ground.guard }], guard := some (39, true) }
abbrev mo41 : Oper := { dst := some 93, op := Go.Op.load 27 (Go.Operand.tmp 1), type := 27, pos := "law.go:29", after := #[{ on := 39, ground := Go.Ground.guard }], guard := some (39, true) }
abbrev mo42 : Oper := { dst := some 94, op := Go.Op.load 27 (Go.Operand.tmp 3), type := 27, pos := "law.go:29", after := #[{ on := 39, ground := Go.Ground.guard }], guard := some (39, true) }
abbrev mo43 : Oper := { dst := some 95, op := Go.Op.buildSlice 29 2 #[(0, Go.Operand.tmp 93), (1, Go.Operand.tmp 94)], type := 29, pos := "law.go:29", after := #[{ on := 41, ground := Go.Ground.data }, { on := 42, ground := Go.Ground.data }, { on := 39, ground := Go.Ground.guard }], guard := some (39, true) }
abbrev mo44 : Oper := { dst := some 96, op := Go.Op.call { callee := Go.Callee.value (Go.Operand.func 13), args := #[Go.Operand.tmp 92, Go.Operand.tmp 95], argTypes := #[29, 29] }, type := 4, pos := "law.go:29", after := #[{ on := 40, ground := Go.Ground.data }, { on := 43, ground := Go.Ground.data }, { on := 39, ground := Go.Ground.chain }, { on := 39, ground := Go.Ground.guard }], guard := some (39, true) }
abbrev mo45 : Oper := { dst := some 97, op := Go.Op.pick (Go.Operand.tmp 91) (Go.Operand.tmp 96) (Go.Operand.const (Go.Value.bool false)), type := 4, pos := "law.go:29", after := #[{ on := 39, ground := Go.Ground.data }, { on := 44, ground := Go.Ground.data }], guard := none }
abbrev mo46 : Oper := { dst := some 98, op := Go.Op.move (Go.Operand.tmp 97), type := 4, pos := "law.go:29", after := #[{ on := 45, ground := Go.Ground.data }, { on := 44, ground := Go.Ground.chain }], guard := none }
abbrev mo47 : Oper := { dst := some 99, op := Go.Op.move (Go.Operand.tmp 12), type := 4, pos := "law.go:29", after := #[{ on := 46, ground := Go.Ground.guard }], guard := some (46, true) }
abbrev mo48 : Oper := { dst := some 100, op := Go.Op.unOp Go.UnOp.not 4 (Go.Operand.tmp 99), type := 4, pos := "law.go:29", after := #[{ on := 47, ground := Go.Ground.data }, { on := 46, ground := Go.Ground.guard }], guard := some (46, true) }
abbrev mo49 : Oper := { dst := some 101, op := Go.Op.pick (Go.Operand.tmp 98) (Go.Operand.tmp 100) (Go.Operand.const (Go.Value.bool false)), type := 4, pos := "law.go:29", after := #[{ on := 46, ground := Go.Ground.data }, { on := 48, ground := Go.Ground.data }], guard := none }
abbrev mo50 : Oper := { dst := some 102, op := Go.Op.move (Go.Operand.tmp 101), type := 4, pos := "law.go:29", after := #[{ on := 49, ground := Go.Ground.data }, { on := 46, ground := Go.Ground.chain }], guard := none }
abbrev mo51 : Oper := { dst := some 103, op := Go.Op.move (Go.Operand.tmp 11), type := 29, pos := "law.go:29", after := #[{ on := 50, ground := Go.Ground.guard }], guard := some (50, true) }
abbrev mo52 : Oper := { dst := some 104, op := Go.Op.move (Go.Operand.tmp 9), type := 29, pos := "law.go:29", after := #[{ on := 50, ground := Go.Ground.guard }], guard := some (50, true) }
abbrev mo53 : Oper := { dst := some 105, op := Go.Op.call { callee := Go.Callee.value (Go.Operand.func 13), args := #[Go.Operand.tmp 103, Go.Operand.tmp 104], argTypes := #[29, 29] }, type := 4, pos := "law.go:29", after := #[{ on := 51, ground := Go.Ground.data }, { on := 52, ground := Go.Ground.data }, { on := 50, ground := Go.Ground.chain }, { on := 50, ground := Go.Ground.guard }], guard := some (50, true) }
abbrev mo54 : Oper := { dst := some 106, op := Go.Op.pick (Go.Operand.tmp 102) (Go.Operand.tmp 105) (Go.Operand.const (Go.Value.bool false)), type := 4, pos := "law.go:29", after := #[{ on := 50, ground := Go.Ground.data }, { on := 53, ground := Go.Ground.data }], guard := none }
abbrev mo55 : Oper := { dst := some 107, op := Go.Op.move (Go.Operand.tmp 106), type := 4, pos := "law.go:29", after := #[{ on := 54, ground := Go.Ground.data }, { on := 53, ground := Go.Ground.chain }], guard := none }
abbrev mo56 : Oper := { dst := some 108, op := Go.Op.move (Go.Operand.tmp 4), type := 29, pos := "law.go:29", after := #[{ on := 55, ground := Go.Ground.guard }], guard := some (55, true) }
abbrev mo57 : Oper := { dst := some 109, op := Go.Op.load 27 (Go.Operand.tmp 3), type := 27, pos := "law.go:29", after := #[{ on := 55, ground := Go.Ground.guard }], guard := some (55, true) }
abbrev mo58 : Oper := { dst := some 110, op := Go.Op.call { callee := Go.Callee.value (Go.Operand.func 15), args := #[Go.Operand.tmp 108, Go.Operand.tmp 109], argTypes := #[29, 27] }, type := 4, pos := "law.go:29", after := #[{ on := 56, ground := Go.Ground.data }, { on := 57, ground := Go.Ground.data }, { on := 55, ground := Go.Ground.chain }, { on := 55, ground := Go.Ground.guard }], guard := some (55, true) }
abbrev mo59 : Oper := { dst := some 111, op := Go.Op.pick (Go.Operand.tmp 107) (Go.Operand.tmp 110) (Go.Operand.const (Go.Value.bool false)), type := 4, pos := "law.go:29", after := #[{ on := 55, ground := Go.Ground.data }, { on := 58, ground := Go.Ground.data }], guard := none }
abbrev mo60 : Oper := { dst := some 112, op := Go.Op.move (Go.Operand.tmp 111), type := 4, pos := "law.go:29", after := #[{ on := 59, ground := Go.Ground.data }, { on := 58, ground := Go.Ground.chain }], guard := none }
abbrev mo61 : Oper := { dst := some 113, op := Go.Op.move (Go.Operand.tmp 9), type := 29, pos := "law.go:29", after := #[{ on := 60, ground := Go.Ground.guard }], guard := some (60, true) }
abbrev mo62 : Oper := { dst := some 114, op := Go.Op.load 27 (Go.Operand.tmp 2), type := 27, pos := "law.go:29", after := #[{ on := 60, ground := Go.Ground.guard }], guard := some (60, true) }
abbrev mo63 : Oper := { dst := some 115, op := Go.Op.call { callee := Go.Callee.value (Go.Operand.func 15), args := #[Go.Operand.tmp 113, Go.Operand.tmp 114], argTypes := #[29, 27] }, type := 4, pos := "law.go:29", after := #[{ on := 61, ground := Go.Ground.data }, { on := 62, ground := Go.Ground.data }, { on := 60, ground := Go.Ground.chain }, { on := 60, ground := Go.Ground.guard }], guard := some (60, true) }
abbrev mo64 : Oper := { dst := some 116, op := Go.Op.unOp Go.UnOp.not 4 (Go.Operand.tmp 115), type := 4, pos := "law.go:29", after := #[{ on := 63, ground := Go.Ground.data }, { on := 60, ground := Go.Ground.guard }], guard := some (60, true) }
abbrev mo65 : Oper := { dst := some 117, op := Go.Op.pick (Go.Operand.tmp 112) (Go.Operand.tmp 116) (Go.Operand.const (Go.Value.bool false)), type := 4, pos := "law.go:29", after := #[{ on := 60, ground := Go.Ground.data }, { on := 64, ground := Go.Ground.data }], guard := none }
abbrev mo66 : Oper := { dst := some 118, op := Go.Op.move (Go.Operand.tmp 117), type := 4, pos := "law.go:29", after := #[{ on := 65, ground := Go.Ground.data }, { on := 63, ground := Go.Ground.chain }], guard := none }
abbrev mo67 : Oper := { dst := some 119, op := Go.Op.move (Go.Operand.tmp 9), type := 29, pos := "law.go:29", after := #[{ on := 66, ground := Go.Ground.guard }], guard := some (66, true) }
abbrev mo68 : Oper := { dst := some 120, op := Go.Op.load 27 (Go.Operand.tmp 2), type := 27, pos := "law.go:29", after := #[{ on := 66, ground := Go.Ground.guard }], guard := some (66, true) }
abbrev mo69 : Oper := { dst := some 121, op := Go.Op.buildSlice 29 1 #[(0, Go.Operand.tmp 120)], type := 29, pos := "law.go:29", after := #[{ on := 68, ground := Go.Ground.data }, { on := 66, ground := Go.Ground.guard }], guard := some (66, true) }
abbrev mo70 : Oper := { dst := some 122, op := Go.Op.move (Go.Operand.tmp 9), type := 29, pos := "law.go:29", after := #[{ on := 66, ground := Go.Ground.guard }], guard := some (66, true) }
abbrev mo71 : Oper := { dst := some 123, op := Go.Op.buildSlice 42 4 #[(0, Go.Operand.tmp 119), (1, Go.Operand.const (Go.Value.slice none 0 0)), (2, Go.Operand.tmp 121), (3, Go.Operand.tmp 122)], type := 42, pos := "law.go:29", after := #[{ on := 67, ground := Go.Ground.data }, { on := 69, ground := Go.Ground.data }, { on := 70, ground := Go.Ground.data }, { on := 66, ground := Go.Ground.guard }], guard := some (66, true) }
abbrev mo72 : Oper := { dst := some 124, op := Go.Op.call { callee := Go.Callee.value (Go.Operand.func 16), args := #[Go.Operand.tmp 123], argTypes := #[42] }, type := 29, pos := "law.go:29", after := #[{ on := 71, ground := Go.Ground.data }, { on := 66, ground := Go.Ground.chain }, { on := 66, ground := Go.Ground.guard }], guard := some (66, true) }
abbrev mo73 : Oper := { dst := some 125, op := Go.Op.move (Go.Operand.tmp 4), type := 29, pos := "law.go:29", after := #[{ on := 66, ground := Go.Ground.guard }], guard := some (66, true) }
abbrev mo74 : Oper := { dst := some 126, op := Go.Op.call { callee := Go.Callee.value (Go.Operand.func 13), args := #[Go.Operand.tmp 124, Go.Operand.tmp 125], argTypes := #[29, 29] }, type := 4, pos := "law.go:29", after := #[{ on := 72, ground := Go.Ground.data }, { on := 73, ground := Go.Ground.data }, { on := 72, ground := Go.Ground.chain }, { on := 66, ground := Go.Ground.guard }], guard := some (66, true) }
abbrev mo75 : Oper := { dst := some 127, op := Go.Op.pick (Go.Operand.tmp 118) (Go.Operand.tmp 126) (Go.Operand.const (Go.Value.bool false)), type := 4, pos := "law.go:29", after := #[{ on := 66, ground := Go.Ground.data }, { on := 74, ground := Go.Ground.data }], guard := none }
abbrev mo76 : Oper := { dst := some 128, op := Go.Op.move (Go.Operand.tmp 127), type := 4, pos := "law.go:29", after := #[{ on := 75, ground := Go.Ground.data }, { on := 74, ground := Go.Ground.chain }], guard := none }
abbrev mo77 : Oper := { dst := some 129, op := Go.Op.call { callee := Go.Callee.value (Go.Operand.func 16), args := #[Go.Operand.const (Go.Value.slice none 0 0)], argTypes := #[42] }, type := 29, pos := "law.go:29", after := #[{ on := 76, ground := Go.Ground.chain }, { on := 76, ground := Go.Ground.guard }], guard := some (76, true) }
abbrev mo78 : Oper := { dst := some 130, op := Go.Op.call { callee := Go.Callee.builtin Go.Builtin.len, args := #[Go.Operand.tmp 129], argTypes := #[29] }, type := 3, pos := "law.go:29", after := #[{ on := 77, ground := Go.Ground.data }, { on := 76, ground := Go.Ground.guard }], guard := some (76, true) }
abbrev mo79 : Oper := { dst := some 131, op := Go.Op.binOp Go.BinOp.eql 3 (Go.Operand.tmp 130) (Go.Operand.const (Go.Value.int Go.IntKind.i64 0)) 3, type := 4, pos := "law.go:29", after := #[{ on := 78, ground := Go.Ground.data }, { on := 76, ground := Go.Ground.guard }], guard := some (76, true) }
abbrev mo80 : Oper := { dst := some 132, op := Go.Op.pick (Go.Operand.tmp 128) (Go.Operand.tmp 131) (Go.Operand.const (Go.Value.bool false)), type := 4, pos := "law.go:29", after := #[{ on := 76, ground := Go.Ground.data }, { on := 79, ground := Go.Ground.data }], guard := none }
abbrev mo81 : Oper := { dst := some 133, op := Go.Op.move (Go.Operand.tmp 132), type := 4, pos := "law.go:29", after := #[{ on := 80, ground := Go.Ground.data }, { on := 77, ground := Go.Ground.chain }], guard := none }
abbrev mo82 : Oper := { dst := some 134, op := Go.Op.move (Go.Operand.tmp 4), type := 29, pos := "law.go:29", after := #[{ on := 81, ground := Go.Ground.guard }], guard := some (81, true) }
abbrev mo83 : Oper := { dst := some 135, op := Go.Op.move (Go.Operand.tmp 9), type := 29, pos := "law.go:29", after := #[{ on := 81, ground := Go.Ground.guard }], guard := some (81, true) }
abbrev mo84 : Oper := { dst := some 136, op := Go.Op.call { callee := Go.Callee.value (Go.Operand.func 17), args := #[Go.Operand.tmp 134, Go.Operand.tmp 135], argTypes := #[29, 29] }, type := 29, pos := "law.go:29", after := #[{ on := 82, ground := Go.Ground.data }, { on := 83, ground := Go.Ground.data }, { on := 81, ground := Go.Ground.chain }, { on := 81, ground := Go.Ground.guard }], guard := some (81, true) }
abbrev mo85 : Oper := { dst := some 137, op := Go.Op.load 27 (Go.Operand.tmp 2), type := 27, pos := "law.go:29", after := #[{ on := 81, ground := Go.Ground.guard }], guard := some (81, true) }
abbrev mo86 : Oper := { dst := some 138, op := Go.Op.buildSlice 29 1 #[(0, Go.Operand.tmp 137)], type := 29, pos := "law.go:29", after := #[{ on := 85, ground := Go.Ground.data }, { on := 81, ground := Go.Ground.guard }], guard := some (81, true) }
abbrev mo87 : Oper := { dst := some 139, op := Go.Op.call { callee := Go.Callee.value (Go.Operand.func 13), args := #[Go.Operand.tmp 136, Go.Operand.tmp 138], argTypes := #[29, 29] }, type := 4, pos := "law.go:29", after := #[{ on := 84, ground := Go.Ground.data }, { on := 86, ground := Go.Ground.data }, { on := 84, ground := Go.Ground.chain }, { on := 81, ground := Go.Ground.guard }], guard := some (81, true) }
abbrev mo88 : Oper := { dst := some 140, op := Go.Op.pick (Go.Operand.tmp 133) (Go.Operand.tmp 139) (Go.Operand.const (Go.Value.bool false)), type := 4, pos := "law.go:29", after := #[{ on := 81, ground := Go.Ground.data }, { on := 87, ground := Go.Ground.data }], guard := none }
abbrev mo89 : Oper := { dst := some 0, op := Go.Op.assign (Go.Operand.tmp 140), type := 4, pos := "law.go:29", after := ([{ on := 88, ground := Go.Ground.data }, { on := 87, ground := Go.Ground.chain }, { on := 0, ground := Go.Ground.phase }, { on := 1, ground := Go.Ground.phase }, { on := 2, ground := Go.Ground.phase }, { on := 3, ground := Go.Ground.phase }, { on := 4, ground := Go.Ground.phase }, { on := 5, ground := Go.Ground.phase }, { on := 6, ground := Go.Ground.phase }, { on := 7, ground := Go.Ground.phase }, { on := 8, ground := Go.Ground.phase }, { on := 9, ground := Go.Ground.phase }, { on := 10, ground := Go.Ground.phase }, { on := 11, ground := Go.Ground.phase }, { on := 12, ground := Go.Ground.phase }, { on := 13, ground := Go.Ground.phase }, { on := 14, ground := Go.Ground.phase }, { on := 15, ground := Go.Ground.phase }, { on := 16, ground := Go.Ground.phase }, { on := 17, ground := Go.Ground.phase }, { on := 18, ground := Go.Ground.phase }, { on := 19, ground := Go.Ground.phase }, { on := 20, ground := Go.Ground.phase }, { on := 21, ground := Go.Ground.phase }, { on := 22, ground := Go.Ground.phase }, { on := 23, ground := Go.Ground.phase }, { on := 24, ground := Go.Ground.phase }, { on := 25, ground := Go.Ground.phase }, { on := 26, ground := Go.Ground.phase }, { on := 27, ground := Go.Ground.phase }, { on := 28, ground := Go.Ground.phase }, { on := 29, ground := Go.Ground.phase }, { on := 30, ground := Go.Ground.phase }, { on := 31, ground := Go.Ground.phase }, { on := 32, ground := Go.Ground.phase }, { on := 33, ground := Go.Ground.phase }, { on := 34, ground := Go.Ground.phase }, { on := 35, ground := Go.Ground.phase }, { on := 36, ground := Go.Ground.phase }, { on := 37, ground := Go.Ground.phase }, { on := 38, ground := Go.Ground.phase }, { on := 39, ground := Go.Ground.phase }, { on := 40, ground := Go.Ground.phase }, { on := 41, ground := Go.Ground.phase }, { on := 42, ground := Go.Ground.phase }, { on := 43, ground := Go.Ground.phase }, { on := 44, ground := Go.Ground.phase }, { on := 45, ground := Go.Ground.phase }, { on := 46, ground := Go.Ground.phase }, { on := 47, ground := Go.Ground.phase }, { on := 48, ground := Go.Ground.phase }, { on := 49, ground := Go.Ground.phase }, { on := 50, ground := Go.Ground.phase }, { on := 51, ground := Go.Ground.phase }, { on := 52, ground := Go.Ground.phase }, { on := 53, ground := Go.Ground.phase }, { on := 54, ground := Go.Ground.phase }, { on := 55, ground := Go.Ground.phase }, { on := 56, ground := Go.Ground.phase }, { on := 57, ground := Go.Ground.phase }, { on := 58, ground := Go.Ground.phase }, { on := 59, ground := Go.Ground.phase }, { on := 60, ground := Go.Ground.phase }, { on := 61, ground := Go.Ground.phase }, { on := 62, ground := Go.Ground.phase }, { on := 63, ground := Go.Ground.phase }, { on := 64, ground := Go.Ground.phase }, { on := 65, ground := Go.Ground.phase }, { on := 66, ground := Go.Ground.phase }, { on := 67, ground := Go.Ground.phase }, { on := 68, ground := Go.Ground.phase }, { on := 69, ground := Go.Ground.phase }, { on := 70, ground := Go.Ground.phase }, { on := 71, ground := Go.Ground.phase }, { on := 72, ground := Go.Ground.phase }, { on := 73, ground := Go.Ground.phase }, { on := 74, ground := Go.Ground.phase }, { on := 75, ground := Go.Ground.phase }, { on := 76, ground := Go.Ground.phase }, { on := 77, ground := Go.Ground.phase }, { on := 78, ground := Go.Ground.phase }, { on := 79, ground := Go.Ground.phase }, { on := 80, ground := Go.Ground.phase }, { on := 81, ground := Go.Ground.phase }, { on := 82, ground := Go.Ground.phase }, { on := 83, ground := Go.Ground.phase }, { on := 84, ground := Go.Ground.phase }, { on := 85, ground := Go.Ground.phase }, { on := 86, ground := Go.Ground.phase }, { on := 87, ground := Go.Ground.phase }, { on := 88, ground := Go.Ground.phase }]).toArray, guard := none }
set_option maxRecDepth 20000 in
set_option maxHeartbeats 16000000 in
theorem lawOrderNames (w : World) : Calls Try.prog 3 #[] w fun e w' => e = .returned (.bool true) ∧ Bel w w' := by
  have hb : Bel w w := Below.refl _ _
  go_enter Try.func3, Try.ntmps3
  go_wp2_with (fail)
  refine (lives8_any _).mono ?_
  rintro e w1 ⟨rfl, hg⟩
  replace hb := hb.trans' hg
  clear hg
  go_wp2_with (fail)
  refine (kV7 pr7 [va] 1 #[.string ⟨#[97]⟩] rfl rfl (by decide) (by decide +kernel) _).mono ?_
  rintro e w2 ⟨⟨x, HX1, rfl⟩, hg⟩
  replace hb := hb.trans' hg
  clear hg
  go_wp2_with (fail)
  refine (kV7 pr7 [vb] 1 #[.string ⟨#[98]⟩] rfl rfl (by decide) (by decide +kernel) _).mono ?_
  rintro e w3 ⟨⟨y, HY1, rfl⟩, hg⟩
  replace hb := hb.trans' hg
  clear hg
  go_wp2_with (fail)
  refine (kB8 [va] 1 #[.string ⟨#[97]⟩] rfl rfl (by decide) (by decide +kernel) _).mono ?_
  rintro e w4 ⟨⟨z, HZ1, rfl⟩, hg⟩
  replace hb := hb.trans' hg
  clear hg
  have hx : x = X8 := HX1.out
  have hy : y = Y8 := HY1.out
  have hz : z = Z8 := HZ1.out
  have e1 : sortedD [z, x, y, x] = [x, y, z] := by rw [hx, hy, hz]; exact n8_1
  have e2 : addD [x] z = [x, z] := by rw [hx, hz]; exact n8_2
  have e3 : addD [x, y, z] y = [x, y, z] := by rw [hx, hy, hz]; exact n8_3
  have e4 : removeD [x, y, z] y = [x, z] := by rw [hx, hy, hz]; exact n8_4
  have e5 : removeD [x, z] y = [x, z] := by rw [hx, hy, hz]; exact n8_5
  have e6 : sortedD [[x, z], [], [y], [x, z]].flatten = [x, y, z] := by rw [hx, hy, hz]; exact n8_6
  have e7 : minusD [x, y, z] [x, z] = [y] := by rw [hx, hy, hz]; exact n8_7
  have e8 : isD [x, y, z] = true := by rw [hx, hy, hz]; exact n8_8
  have e9 : isD [x, x] = false := by rw [hx]; exact n8_9
  have e10 : hasK [x] z = false := by rw [hx, hz]; exact n8_10
  have e11 : hasK [x, y, z] y = true := by rw [hx, hy, hz]; exact n8_11
  have e12 : hasK [x, z] y = false := by rw [hx, hy, hz]; exact n8_12
  have e13 : hasK [x, y, z] z = true := by rw [hx, hy, hz]; exact n8_13
  have sx : AtomSm x := hx ▸ smX
  have sy : AtomSm y := hy ▸ smY
  have sz : AtomSm z := hz ▸ smZ
  have s4 : SmA [z, x, y, x] := fun a h => by
    simp only [List.mem_cons, List.mem_nil_iff, or_false] at h
    rcases h with rfl | rfl | rfl | rfl <;> assumption
  have s3 : SmA [x, y, z] := fun a h => by
    simp only [List.mem_cons, List.mem_nil_iff, or_false] at h
    rcases h with rfl | rfl | rfl <;> assumption
  have s2 : SmA [x, z] := fun a h => by
    simp only [List.mem_cons, List.mem_nil_iff, or_false] at h
    rcases h with rfl | rfl <;> assumption
  have s1 : SmA [x] := fun a h => by
    simp only [List.mem_cons, List.mem_nil_iff, or_false] at h
    subst h; assumption
  have s22 : SmA [x, x] := fun a h => by
    simp only [List.mem_cons, List.mem_nil_iff, or_false, or_self] at h
    subst h; assumption
  have s5 : SmA [[x, z], [], [y], [x, z]].flatten := fun a h => by
    simp only [List.flatten_cons, List.flatten_nil, List.mem_append, List.mem_cons, List.mem_nil_iff, or_false, false_or] at h
    rcases h with (rfl | rfl) | rfl | rfl | rfl <;> assumption
  have hS := Lib.hid (fun q c W (h : AL W q c [z, x, y, x]) => Sorted_any q [z, x, y, x] 4 c rfl W h (by simp) s4)
  have hA1 := Lib.hid (fun q c W (h : AL W q c [x]) => Add_any q [x] 1 c rfl z W h (by simp) s1 sz)
  have hA2 := Lib.hid (fun q c W (h : AL W q c [x, y, z]) => Add_any q [x, y, z] 3 c rfl y W h (by simp) s3 sy)
  have hR1 := Lib.hid (fun q c W (h : AL W q c [x, y, z]) => Remove_any q [x, y, z] 3 c rfl y W h (by simp) s3 sy)
  have hR2 := Lib.hid (fun q c W (h : AL W q c [x, z]) => Remove_any q [x, z] 2 c rfl y W h (by simp) s2 sy)
  have hI1 := Lib.hid (fun q c W (h : AL W q c [x, y, z]) => Is_any q [x, y, z] 3 c rfl W h (by simp) s3)
  have hI2 := Lib.hid (fun q c W (h : AL W q c [x, x]) => Is_any q [x, x] 2 c rfl W h (by simp) s22)
  have hH1 := Lib.hid (fun q c W (h : AL W q c [x, y, z]) => Has_any q [x, y, z] 3 c rfl z W h (by simp) s3 sz)
  have hH2 := Lib.hid (fun q c W (h : AL W q c [x, z]) => Has_any q [x, z] 2 c rfl y W h (by simp) s2 sy)
  have hM1 := Lib.hid (fun A vs W (h : LV W A 4 vs [[x, z], [], [y], [x, z]]) (hn : vs.length = 4) => Merge_any A vs [[x, z], [], [y], [x, z]] 4 4 hn W h (by simp) (by decide) s5)
  have hM2 := Lib.hid (fun W => Merge_any none [] [] 0 0 rfl W (LV.nil W) (by simp) (by decide) (fun a h => by simp at h))
  have hMi := Lib.hid (fun q c p d W (h : AL W q c [x, y, z]) (k : AL W p d [x, z]) => Minus_any q [x, y, z] 3 c rfl p [x, z] 2 d rfl W h (by simp) s3 k (by simp) s2)
  simp only [e1] at hS
  simp only [e2, e10] at hA1
  simp only [e3, e11] at hA2
  simp only [e4, e11] at hR1
  simp only [e5, e12] at hR2
  simp only [e8] at hI1
  simp only [e9] at hI2
  simp only [e13] at hH1
  simp only [e12] at hH2
  simp only [e6] at hM1
  simp only [List.flatten_nil, show sortedD [] = [] from rfl] at hM2
  simp only [e7] at hMi
  clear hx hy hz e1 e2 e3 e4 e5 e6 e7 e8 e9 e10 e11 e12 e13 sx sy sz s1 s2 s3 s4 s5 s22 HX1 HY1 HZ1
  have g1 := bel_alloc w4 (.cells #[.string x.says, .string x.pred, .int .i64 x.n, .bool x.t0.v, .string x.t0.name, .bool x.t1.v, .string x.t1.name, .bool x.t2.v, .string x.t2.name, .bool x.t3.v, .string x.t3.name] 27)
  have g2 := bel_alloc (w4.alloc (.cells #[.string x.says, .string x.pred, .int .i64 x.n, .bool x.t0.v, .string x.t0.name, .bool x.t1.v, .string x.t1.name, .bool x.t2.v, .string x.t2.name, .bool x.t3.v, .string x.t3.name] 27)) (.cells #[.string y.says, .string y.pred, .int .i64 y.n, .bool y.t0.v, .string y.t0.name, .bool y.t1.v, .string y.t1.name, .bool y.t2.v, .string y.t2.name, .bool y.t3.v, .string y.t3.name] 27)
  have g3 := bel_alloc ((w4.alloc (.cells #[.string x.says, .string x.pred, .int .i64 x.n, .bool x.t0.v, .string x.t0.name, .bool x.t1.v, .string x.t1.name, .bool x.t2.v, .string x.t2.name, .bool x.t3.v, .string x.t3.name] 27)).alloc (.cells #[.string y.says, .string y.pred, .int .i64 y.n, .bool y.t0.v, .string y.t0.name, .bool y.t1.v, .string y.t1.name, .bool y.t2.v, .string y.t2.name, .bool y.t3.v, .string y.t3.name] 27)) (.cells #[.string z.says, .string z.pred, .int .i64 z.n, .bool z.t0.v, .string z.t0.name, .bool z.t1.v, .string z.t1.name, .bool z.t2.v, .string z.t2.name, .bool z.t3.v, .string z.t3.name] 27)
  have hP1 := ((AtomAt.new w4 x).bel g2).bel g3
  have hP2 := (AtomAt.new (w4.alloc (.cells #[.string x.says, .string x.pred, .int .i64 x.n, .bool x.t0.v, .string x.t0.name, .bool x.t1.v, .string x.t1.name, .bool x.t2.v, .string x.t2.name, .bool x.t3.v, .string x.t3.name] 27)) y).bel g3
  have hP3 := AtomAt.new ((w4.alloc (.cells #[.string x.says, .string x.pred, .int .i64 x.n, .bool x.t0.v, .string x.t0.name, .bool x.t1.v, .string x.t1.name, .bool x.t2.v, .string x.t2.name, .bool x.t3.v, .string x.t3.name] 27)).alloc (.cells #[.string y.says, .string y.pred, .int .i64 y.n, .bool y.t0.v, .string y.t0.name, .bool y.t1.v, .string y.t1.name, .bool y.t2.v, .string y.t2.name, .bool y.t3.v, .string y.t3.name] 27)) z
  rw [show ((w4.alloc (.cells #[.string x.says, .string x.pred, .int .i64 x.n, .bool x.t0.v, .string x.t0.name, .bool x.t1.v, .string x.t1.name, .bool x.t2.v, .string x.t2.name, .bool x.t3.v, .string x.t3.name] 27)).alloc (.cells #[.string y.says, .string y.pred, .int .i64 y.n, .bool y.t0.v, .string y.t0.name, .bool y.t1.v, .string y.t1.name, .bool y.t2.v, .string y.t2.name, .bool y.t3.v, .string y.t3.name] 27)).heap.size = w4.heap.size + 1 + 1 by simp] at hP3
  rw [show (w4.alloc (.cells #[.string x.says, .string x.pred, .int .i64 x.n, .bool x.t0.v, .string x.t0.name, .bool x.t1.v, .string x.t1.name, .bool x.t2.v, .string x.t2.name, .bool x.t3.v, .string x.t3.name] 27)).heap.size = w4.heap.size + 1 by simp] at hP2
  have HB := Lib.hid (hb.trans' ((g1.trans' g2).trans' g3))
  have HP1 := Lib.hid hP1
  have HP2 := Lib.hid hP2
  have HP3 := Lib.hid hP3
  obtain ⟨c0, c1, c2, c3, c4, c5, c6, c7, c8, c9, c10⟩ := hP1.cells
  obtain ⟨d0, d1, d2, d3, d4, d5, d6, d7, d8, d9, d10⟩ := hP2.cells
  obtain ⟨f0, f1, f2, f3, f4, f5, f6, f7, f8, f9, f10⟩ := hP3.cells
  clear g1 g2 g3 hP1 hP2 hP3 hb
  have hlit0 := al_lit (((w4.alloc (.cells #[.string x.says, .string x.pred, .int .i64 x.n, .bool x.t0.v, .string x.t0.name, .bool x.t1.v, .string x.t1.name, .bool x.t2.v, .string x.t2.name, .bool x.t3.v, .string x.t3.name] 27)).alloc (.cells #[.string y.says, .string y.pred, .int .i64 y.n, .bool y.t0.v, .string y.t0.name, .bool y.t1.v, .string y.t1.name, .bool y.t2.v, .string y.t2.name, .bool y.t3.v, .string y.t3.name] 27)).alloc (.cells #[.string z.says, .string z.pred, .int .i64 z.n, .bool z.t0.v, .string z.t0.name, .bool z.t1.v, .string z.t1.name, .bool z.t2.v, .string z.t2.name, .bool z.t3.v, .string z.t3.name] 27)) [z, x, y, x] #[(.string z.says), (.string z.pred), (.int .i64 z.n), (.bool z.t0.v), (.string z.t0.name), (.bool z.t1.v), (.string z.t1.name), (.bool z.t2.v), (.string z.t2.name), (.bool z.t3.v), (.string z.t3.name), (.string x.says), (.string x.pred), (.int .i64 x.n), (.bool x.t0.v), (.string x.t0.name), (.bool x.t1.v), (.string x.t1.name), (.bool x.t2.v), (.string x.t2.name), (.bool x.t3.v), (.string x.t3.name), (.string y.says), (.string y.pred), (.int .i64 y.n), (.bool y.t0.v), (.string y.t0.name), (.bool y.t1.v), (.string y.t1.name), (.bool y.t2.v), (.string y.t2.name), (.bool y.t3.v), (.string y.t3.name), (.string x.says), (.string x.pred), (.int .i64 x.n), (.bool x.t0.v), (.string x.t0.name), (.bool x.t1.v), (.string x.t1.name), (.bool x.t2.v), (.string x.t2.name), (.bool x.t3.v), (.string x.t3.name)] rfl (w4.heap.size + 1 + 1 + 1) (by simp)
  have HLIT := Lib.hid (hS.out _ 4 _ hlit0)
  have HLB := Lib.hid (bel_alloc (((w4.alloc (.cells #[.string x.says, .string x.pred, .int .i64 x.n, .bool x.t0.v, .string x.t0.name, .bool x.t1.v, .string x.t1.name, .bool x.t2.v, .string x.t2.name, .bool x.t3.v, .string x.t3.name] 27)).alloc (.cells #[.string y.says, .string y.pred, .int .i64 y.n, .bool y.t0.v, .string y.t0.name, .bool y.t1.v, .string y.t1.name, .bool y.t2.v, .string y.t2.name, .bool y.t3.v, .string y.t3.name] 27)).alloc (.cells #[.string z.says, .string z.pred, .int .i64 z.n, .bool z.t0.v, .string z.t0.name, .bool z.t1.v, .string z.t1.name, .bool z.t2.v, .string z.t2.name, .bool z.t3.v, .string z.t3.name] 27)) (.cells #[(.string z.says), (.string z.pred), (.int .i64 z.n), (.bool z.t0.v), (.string z.t0.name), (.bool z.t1.v), (.string z.t1.name), (.bool z.t2.v), (.string z.t2.name), (.bool z.t3.v), (.string z.t3.name), (.string x.says), (.string x.pred), (.int .i64 x.n), (.bool x.t0.v), (.string x.t0.name), (.bool x.t1.v), (.string x.t1.name), (.bool x.t2.v), (.string x.t2.name), (.bool x.t3.v), (.string x.t3.name), (.string y.says), (.string y.pred), (.int .i64 y.n), (.bool y.t0.v), (.string y.t0.name), (.bool y.t1.v), (.string y.t1.name), (.bool y.t2.v), (.string y.t2.name), (.bool y.t3.v), (.string y.t3.name), (.string x.says), (.string x.pred), (.int .i64 x.n), (.bool x.t0.v), (.string x.t0.name), (.bool x.t1.v), (.string x.t1.name), (.bool x.t2.v), (.string x.t2.name), (.bool x.t3.v), (.string x.t3.name)] 27))
  clear hlit0 hS
  go_wp2_with (fail)
  refine (HLIT.out).mono ?_
  rintro e w10 ⟨⟨qs, cs, HOs, rfl⟩, hg⟩
  replace hg := HLB.out.trans' hg
  clear c0 c1 c2 c3 c4 c5 c6 c7 c8 c9 c10
  clear d0 d1 d2 d3 d4 d5 d6 d7 d8 d9 d10
  clear f0 f1 f2 f3 f4 f5 f6 f7 f8 f9 f10
  replace HP1 := Lib.hid (HP1.out.bel hg)
  replace HP2 := Lib.hid (HP2.out.bel hg)
  replace HP3 := Lib.hid (HP3.out.bel hg)
  replace HB := Lib.hid (HB.out.trans' hg)
  clear hg
  obtain ⟨gs, rfl, hcs⟩ := three_at HOs.out (by simp)
  have HS := Lib.hid (al_own HOs.out)
  have hcs1 : (3 : Nat) ≤ cs := hcs
  have hcs2 : (1 : Int) ≤ cs := by omega
  clear HOs hcs HLIT HLB
  obtain ⟨f0, f1, f2, f3, f4, f5, f6, f7, f8, f9, f10⟩ := HP3.out.cells
  have hd := bel_drew' (Below.refl w10.heap.size w10)
  have HPD := Lib.hid HP3.out.drew
  clear f0 f1 f2 f3 f4 f5 f6 f7 f8 f9 f10
  obtain ⟨f0, f1, f2, f3, f4, f5, f6, f7, f8, f9, f10⟩ := HPD.out.cells
  go_wp2
  go_region_held3 (fun w' => (w'.cell? ⟨w4.heap.size + 1 + 1, 0, none⟩ = some (.string z.says) ∧ w'.cell? ⟨w4.heap.size + 1 + 1, 1, none⟩ = some (.string z.pred) ∧ w'.cell? ⟨w4.heap.size + 1 + 1, 2, none⟩ = some (.int .i64 z.n) ∧ w'.cell? ⟨w4.heap.size + 1 + 1, 3, none⟩ = some (.bool z.t0.v) ∧ w'.cell? ⟨w4.heap.size + 1 + 1, 4, none⟩ = some (.string z.t0.name) ∧ w'.cell? ⟨w4.heap.size + 1 + 1, 5, none⟩ = some (.bool z.t1.v) ∧ w'.cell? ⟨w4.heap.size + 1 + 1, 6, none⟩ = some (.string z.t1.name) ∧ w'.cell? ⟨w4.heap.size + 1 + 1, 7, none⟩ = some (.bool z.t2.v) ∧ w'.cell? ⟨w4.heap.size + 1 + 1, 8, none⟩ = some (.string z.t2.name) ∧ w'.cell? ⟨w4.heap.size + 1 + 1, 9, none⟩ = some (.bool z.t3.v) ∧ w'.cell? ⟨w4.heap.size + 1 + 1, 10, none⟩ = some (.string z.t3.name))) (first | exact (HP3.out.bel hd).cells | go_keep | trivial)
    (first | (go_at_call 11; refine (hA1.out (some ⟨gs, 0, none⟩) cs _ ((HS.out.bel hd).take 1)).mono ?_; rintro e w11 ⟨⟨qm, cm, HOm, rfl⟩, hg⟩; replace hd := hd.trans' hg; clear hg))
  all_goals
    clear f0 f1 f2 f3 f4 f5 f6 f7 f8 f9 f10
    replace HP1 := Lib.hid (HP1.out.bel hd)
    replace HP2 := Lib.hid (HP2.out.bel hd)
    replace HP3 := Lib.hid (HP3.out.bel hd)
    replace HS := Lib.hid (HS.out.bel hd)
    replace HB := Lib.hid (HB.out.trans' hd)
    have HM := Lib.hid (al_own HOm.out)
    clear hd HPD HOm hA1 hcs1 hcs2
    obtain ⟨d0, d1, d2, d3, d4, d5, d6, d7, d8, d9, d10⟩ := HP2.out.cells
    go_wp2_with (fail)
    refine (hA2.out _ _ _ HS.out).mono ?_
    rintro e w12 ⟨⟨qn, cn, HOn, rfl⟩, hg⟩
    clear d0 d1 d2 d3 d4 d5 d6 d7 d8 d9 d10
    replace HP1 := Lib.hid (HP1.out.bel hg)
    replace HP2 := Lib.hid (HP2.out.bel hg)
    replace HP3 := Lib.hid (HP3.out.bel hg)
    replace HS := Lib.hid (HS.out.bel hg)
    replace HM := Lib.hid (HM.out.bel hg)
    replace HB := Lib.hid (HB.out.trans' hg)
    clear hg
    have HN := Lib.hid (al_own HOn.out)
    clear HOn hA2
    obtain ⟨d0, d1, d2, d3, d4, d5, d6, d7, d8, d9, d10⟩ := HP2.out.cells
    go_wp2_with (fail)
    refine (hR1.out _ _ _ HS.out).mono ?_
    rintro e w13 ⟨⟨qo, co, HOo, rfl⟩, hg⟩
    clear d0 d1 d2 d3 d4 d5 d6 d7 d8 d9 d10
    replace HP1 := Lib.hid (HP1.out.bel hg)
    replace HP2 := Lib.hid (HP2.out.bel hg)
    replace HP3 := Lib.hid (HP3.out.bel hg)
    replace HS := Lib.hid (HS.out.bel hg)
    replace HM := Lib.hid (HM.out.bel hg)
    replace HN := Lib.hid (HN.out.bel hg)
    replace HB := Lib.hid (HB.out.trans' hg)
    clear hg
    have HO := Lib.hid (al_own HOo.out)
    clear HOo hR1
    obtain ⟨d0, d1, d2, d3, d4, d5, d6, d7, d8, d9, d10⟩ := HP2.out.cells
    go_wp2_with (fail)
    refine (hR2.out _ _ _ HO.out).mono ?_
    rintro e w14 ⟨⟨qq, cq, HOq, rfl⟩, hg⟩
    clear d0 d1 d2 d3 d4 d5 d6 d7 d8 d9 d10
    replace HP1 := Lib.hid (HP1.out.bel hg)
    replace HP2 := Lib.hid (HP2.out.bel hg)
    replace HP3 := Lib.hid (HP3.out.bel hg)
    replace HS := Lib.hid (HS.out.bel hg)
    replace HM := Lib.hid (HM.out.bel hg)
    replace HN := Lib.hid (HN.out.bel hg)
    replace HO := Lib.hid (HO.out.bel hg)
    replace HB := Lib.hid (HB.out.trans' hg)
    clear hg
    have HQ := Lib.hid (al_own HOq.out)
    clear HOq hR2
    obtain ⟨c0, c1, c2, c3, c4, c5, c6, c7, c8, c9, c10⟩ := HP1.out.cells
    obtain ⟨d0, d1, d2, d3, d4, d5, d6, d7, d8, d9, d10⟩ := HP2.out.cells
    obtain ⟨f0, f1, f2, f3, f4, f5, f6, f7, f8, f9, f10⟩ := HP3.out.cells
    clear c0 c1 c2 c3 c4 c5 c6 c7 c8 c9 c10
    clear d0 d1 d2 d3 d4 d5 d6 d7 d8 d9 d10
    clear f0 f1 f2 f3 f4 f5 f6 f7 f8 f9 f10
    have hwD : Bel w14 w14.drew := bel_drew' (Below.refl _ _)
    go_wp2_with (fail)
    simp only [List.append]
    replace HP1 := Lib.hid HP1.out.drew
    replace HP2 := Lib.hid HP2.out.drew
    replace HP3 := Lib.hid HP3.out.drew
    replace HS := Lib.hid (HS.out.bel hwD)
    replace HM := Lib.hid (HM.out.bel hwD)
    replace HN := Lib.hid (HN.out.bel hwD)
    replace HO := Lib.hid (HO.out.bel hwD)
    replace HQ := Lib.hid (HQ.out.bel hwD)
    refine wp_region_held_drew (S := fun w' => (w'.cell? ⟨w4.heap.size, 0, none⟩ = some (.string x.says) ∧ w'.cell? ⟨w4.heap.size, 1, none⟩ = some (.string x.pred) ∧ w'.cell? ⟨w4.heap.size, 2, none⟩ = some (.int .i64 x.n) ∧ w'.cell? ⟨w4.heap.size, 3, none⟩ = some (.bool x.t0.v) ∧ w'.cell? ⟨w4.heap.size, 4, none⟩ = some (.string x.t0.name) ∧ w'.cell? ⟨w4.heap.size, 5, none⟩ = some (.bool x.t1.v) ∧ w'.cell? ⟨w4.heap.size, 6, none⟩ = some (.string x.t1.name) ∧ w'.cell? ⟨w4.heap.size, 7, none⟩ = some (.bool x.t2.v) ∧ w'.cell? ⟨w4.heap.size, 8, none⟩ = some (.string x.t2.name) ∧ w'.cell? ⟨w4.heap.size, 9, none⟩ = some (.bool x.t3.v) ∧ w'.cell? ⟨w4.heap.size, 10, none⟩ = some (.string x.t3.name)) ∧ (w'.cell? ⟨w4.heap.size + 1, 0, none⟩ = some (.string y.says) ∧ w'.cell? ⟨w4.heap.size + 1, 1, none⟩ = some (.string y.pred) ∧ w'.cell? ⟨w4.heap.size + 1, 2, none⟩ = some (.int .i64 y.n) ∧ w'.cell? ⟨w4.heap.size + 1, 3, none⟩ = some (.bool y.t0.v) ∧ w'.cell? ⟨w4.heap.size + 1, 4, none⟩ = some (.string y.t0.name) ∧ w'.cell? ⟨w4.heap.size + 1, 5, none⟩ = some (.bool y.t1.v) ∧ w'.cell? ⟨w4.heap.size + 1, 6, none⟩ = some (.string y.t1.name) ∧ w'.cell? ⟨w4.heap.size + 1, 7, none⟩ = some (.bool y.t2.v) ∧ w'.cell? ⟨w4.heap.size + 1, 8, none⟩ = some (.string y.t2.name) ∧ w'.cell? ⟨w4.heap.size + 1, 9, none⟩ = some (.bool y.t3.v) ∧ w'.cell? ⟨w4.heap.size + 1, 10, none⟩ = some (.string y.t3.name)) ∧ (w'.cell? ⟨w4.heap.size + 1 + 1, 0, none⟩ = some (.string z.says) ∧ w'.cell? ⟨w4.heap.size + 1 + 1, 1, none⟩ = some (.string z.pred) ∧ w'.cell? ⟨w4.heap.size + 1 + 1, 2, none⟩ = some (.int .i64 z.n) ∧ w'.cell? ⟨w4.heap.size + 1 + 1, 3, none⟩ = some (.bool z.t0.v) ∧ w'.cell? ⟨w4.heap.size + 1 + 1, 4, none⟩ = some (.string z.t0.name) ∧ w'.cell? ⟨w4.heap.size + 1 + 1, 5, none⟩ = some (.bool z.t1.v) ∧ w'.cell? ⟨w4.heap.size + 1 + 1, 6, none⟩ = some (.string z.t1.name) ∧ w'.cell? ⟨w4.heap.size + 1 + 1, 7, none⟩ = some (.bool z.t2.v) ∧ w'.cell? ⟨w4.heap.size + 1 + 1, 8, none⟩ = some (.string z.t2.name) ∧ w'.cell? ⟨w4.heap.size + 1 + 1, 9, none⟩ = some (.bool z.t3.v) ∧ w'.cell? ⟨w4.heap.size + 1 + 1, 10, none⟩ = some (.string z.t3.name))) (by kernel_rfl) (⟨HP1.out.cells, HP2.out.cells, HP3.out.cells⟩) (fun hHeld => ?_)
    obtain ⟨wD, hD⟩ : ∃ x, x = w14.drew := ⟨_, rfl⟩
    rw [← hD] at HP1 HP2 HP3 HS HM HN HO HQ hwD hHeld ⊢
    have hd := hwD
    clear hwD hD
    refine tkmO (v := ?_) 0 mo0 rfl (by as_aux_lemma => kernel_rfl) (by as_aux_lemma => kernel_rfl) (by as_aux_lemma => kernel_rfl) (fun _ _ _ h => h) (by rfl) hHeld ?_ ?_
    rotate_left
    · (unfold mo0; intro w hSw; (try dsimp only at hSw); go_simp)
      all_goals with_reducible rfl
    try simp only [Act.put, List.setIfInBounds_toArray, List.set_cons_zero, List.set_cons_succ]
    refine tkmO (v := ?_) 1 mo1 rfl (by as_aux_lemma => kernel_rfl) (by as_aux_lemma => kernel_rfl) (by as_aux_lemma => kernel_rfl) (fun _ _ _ h => h) (by rfl) hHeld ?_ ?_
    rotate_left
    · (unfold mo1; intro w hSw; (try dsimp only at hSw); go_simp)
      all_goals with_reducible rfl
    try simp only [Act.put, List.setIfInBounds_toArray, List.set_cons_zero, List.set_cons_succ]
    refine tkmO (v := ?_) 2 mo2 rfl (by as_aux_lemma => kernel_rfl) (by as_aux_lemma => kernel_rfl) (by as_aux_lemma => kernel_rfl) (fun _ _ _ h => h) (by rfl) hHeld ?_ ?_
    rotate_left
    · (unfold mo2; intro w hSw; (try dsimp only at hSw); go_simp)
      all_goals with_reducible rfl
    try simp only [Act.put, List.setIfInBounds_toArray, List.set_cons_zero, List.set_cons_succ]
    refine tkmO (v := ?_) 3 mo3 rfl (by as_aux_lemma => kernel_rfl) (by as_aux_lemma => kernel_rfl) (by as_aux_lemma => kernel_rfl) (fun _ _ _ h => h) (by rfl) hHeld ?_ ?_
    rotate_left
    · (unfold mo3; intro w hSw; (try dsimp only at hSw); go_simp)
      all_goals with_reducible rfl
    try simp only [Act.put, List.setIfInBounds_toArray, List.set_cons_zero, List.set_cons_succ]
    refine wpAnyH_ready (rs := [4]) (by as_aux_lemma => kernel_rfl) (by simp) ?_
    refine (AllReadyH.cons (o := mo4) rfl (fun K hK => ?_) AllReadyH.nil)
    unfold mo4; go_simp
    have hg := bel_alloc wD (.cells #[(.string x.says), (.string x.pred), (.int .i64 x.n), (.bool x.t0.v), (.string x.t0.name), (.bool x.t1.v), (.string x.t1.name), (.bool x.t2.v), (.string x.t2.name), (.bool x.t3.v), (.string x.t3.name), (.string y.says), (.string y.pred), (.int .i64 y.n), (.bool y.t0.v), (.string y.t0.name), (.bool y.t1.v), (.string y.t1.name), (.bool y.t2.v), (.string y.t2.name), (.bool y.t3.v), (.string y.t3.name), (.string z.says), (.string z.pred), (.int .i64 z.n), (.bool z.t0.v), (.string z.t0.name), (.bool z.t1.v), (.string z.t1.name), (.bool z.t2.v), (.string z.t2.name), (.bool z.t3.v), (.string z.t3.name)] 27)
    have hN := al_lit wD [x, y, z] #[(.string x.says), (.string x.pred), (.int .i64 x.n), (.bool x.t0.v), (.string x.t0.name), (.bool x.t1.v), (.string x.t1.name), (.bool x.t2.v), (.string x.t2.name), (.bool x.t3.v), (.string x.t3.name), (.string y.says), (.string y.pred), (.int .i64 y.n), (.bool y.t0.v), (.string y.t0.name), (.bool y.t1.v), (.string y.t1.name), (.bool y.t2.v), (.string y.t2.name), (.bool y.t3.v), (.string y.t3.name), (.string z.says), (.string z.pred), (.int .i64 z.n), (.bool z.t0.v), (.string z.t0.name), (.bool z.t1.v), (.string z.t1.name), (.bool z.t2.v), (.string z.t2.name), (.bool z.t3.v), (.string z.t3.name)] rfl _ rfl
    obtain ⟨u1, hW⟩ : ∃ wz, wz = wD.alloc (.cells #[(.string x.says), (.string x.pred), (.int .i64 x.n), (.bool x.t0.v), (.string x.t0.name), (.bool x.t1.v), (.string x.t1.name), (.bool x.t2.v), (.string x.t2.name), (.bool x.t3.v), (.string x.t3.name), (.string y.says), (.string y.pred), (.int .i64 y.n), (.bool y.t0.v), (.string y.t0.name), (.bool y.t1.v), (.string y.t1.name), (.bool y.t2.v), (.string y.t2.name), (.bool y.t3.v), (.string y.t3.name), (.string z.says), (.string z.pred), (.int .i64 z.n), (.bool z.t0.v), (.string z.t0.name), (.bool z.t1.v), (.string z.t1.name), (.bool z.t2.v), (.string z.t2.name), (.bool z.t3.v), (.string z.t3.name)] 27) := ⟨_, rfl⟩
    rw [← hW] at hg hN ⊢
    clear hW
    replace HP1 := Lib.hid (HP1.out.bel hg)
    replace HP2 := Lib.hid (HP2.out.bel hg)
    replace HP3 := Lib.hid (HP3.out.bel hg)
    replace HS := Lib.hid (HS.out.bel hg)
    replace HM := Lib.hid (HM.out.bel hg)
    replace HN := Lib.hid (HN.out.bel hg)
    replace HO := Lib.hid (HO.out.bel hg)
    replace HQ := Lib.hid (HQ.out.bel hg)
    replace hd := hd.trans' hg
    clear hg
    have HT56 := Lib.hid hN
    clear hN
    first | refine hK.out _ _ ?_ (fun hHeld => ?_) | (go_wp2_with fail; refine hK.out _ _ ?_ (fun hHeld => ?_))
    · (try dsimp only); exact ⟨HP1.out.cells, HP2.out.cells, HP3.out.cells⟩
    clear hK K
    try simp only [Act.put, List.setIfInBounds_toArray, List.set_cons_zero, List.set_cons_succ]
    refine wpAnyH_ready (rs := [5]) (by as_aux_lemma => kernel_rfl) (by simp) ?_
    refine (AllReadyH.cons (o := mo5) rfl (fun K hK => ?_) AllReadyH.nil)
    unfold mo5; go_simp
    go_at_call 13
    refine (sameA_any _ [x, y, z] 3 _ rfl _ 3 3 rfl _ HS.out HT56.out (by simp)).mono ?_
    rintro e u2 ⟨rfl, hg⟩
    clear HT56
    replace HP1 := Lib.hid (HP1.out.bel hg)
    replace HP2 := Lib.hid (HP2.out.bel hg)
    replace HP3 := Lib.hid (HP3.out.bel hg)
    replace HS := Lib.hid (HS.out.bel hg)
    replace HM := Lib.hid (HM.out.bel hg)
    replace HN := Lib.hid (HN.out.bel hg)
    replace HO := Lib.hid (HO.out.bel hg)
    replace HQ := Lib.hid (HQ.out.bel hg)
    replace hd := hd.trans' hg
    clear hg
    first | refine hK.out _ _ ?_ (fun hHeld => ?_) | (go_wp2_with fail; refine hK.out _ _ ?_ (fun hHeld => ?_))
    · (try dsimp only); exact ⟨HP1.out.cells, HP2.out.cells, HP3.out.cells⟩
    clear hK K
    try simp only [Act.put, List.setIfInBounds_toArray, List.set_cons_zero, List.set_cons_succ]
    refine tkmO (v := ?_) 6 mo6 rfl (by as_aux_lemma => kernel_rfl) (by as_aux_lemma => kernel_rfl) (by as_aux_lemma => kernel_rfl) (fun _ _ _ h => h) (by rfl) hHeld ?_ ?_
    rotate_left
    · (unfold mo6; intro w hSw; (try dsimp only at hSw); go_simp)
      all_goals with_reducible rfl
    try simp only [Act.put, List.setIfInBounds_toArray, List.set_cons_zero, List.set_cons_succ]
    refine tkmO (v := ?_) 7 mo7 rfl (by as_aux_lemma => kernel_rfl) (by as_aux_lemma => kernel_rfl) (by as_aux_lemma => kernel_rfl) (fun _ _ _ h => h) (by rfl) hHeld ?_ ?_
    rotate_left
    · (unfold mo7; intro w hSw; (try dsimp only at hSw); go_simp)
      all_goals with_reducible rfl
    try simp only [Act.put, List.setIfInBounds_toArray, List.set_cons_zero, List.set_cons_succ]
    refine wpAnyH_ready (rs := [8]) (by as_aux_lemma => kernel_rfl) (by simp) ?_
    refine (AllReadyH.cons (o := mo8) rfl (fun K hK => ?_) AllReadyH.nil)
    unfold mo8; go_simp
    go_at_call 14
    refine (hI1.out _ _ _ HS.out).mono ?_
    rintro e u3 ⟨rfl, hg⟩
    replace HP1 := Lib.hid (HP1.out.bel hg)
    replace HP2 := Lib.hid (HP2.out.bel hg)
    replace HP3 := Lib.hid (HP3.out.bel hg)
    replace HS := Lib.hid (HS.out.bel hg)
    replace HM := Lib.hid (HM.out.bel hg)
    replace HN := Lib.hid (HN.out.bel hg)
    replace HO := Lib.hid (HO.out.bel hg)
    replace HQ := Lib.hid (HQ.out.bel hg)
    replace hd := hd.trans' hg
    clear hg
    first | refine hK.out _ _ ?_ (fun hHeld => ?_) | (go_wp2_with fail; refine hK.out _ _ ?_ (fun hHeld => ?_))
    · (try dsimp only); exact ⟨HP1.out.cells, HP2.out.cells, HP3.out.cells⟩
    clear hK K
    try simp only [Act.put, List.setIfInBounds_toArray, List.set_cons_zero, List.set_cons_succ]
    refine tkmO (v := ?_) 9 mo9 rfl (by as_aux_lemma => kernel_rfl) (by as_aux_lemma => kernel_rfl) (by as_aux_lemma => kernel_rfl) (fun _ _ _ h => h) (by rfl) hHeld ?_ ?_
    rotate_left
    · (unfold mo9; intro w hSw; (try dsimp only at hSw); go_simp)
      all_goals with_reducible rfl
    try simp only [Act.put, List.setIfInBounds_toArray, List.set_cons_zero, List.set_cons_succ]
    refine tkmO (v := ?_) 10 mo10 rfl (by as_aux_lemma => kernel_rfl) (by as_aux_lemma => kernel_rfl) (by as_aux_lemma => kernel_rfl) (fun _ _ _ h => h) (by rfl) hHeld ?_ ?_
    rotate_left
    · (unfold mo10; intro w hSw; (try dsimp only at hSw); go_simp)
      all_goals with_reducible rfl
    try simp only [Act.put, List.setIfInBounds_toArray, List.set_cons_zero, List.set_cons_succ]
    refine tkmO (v := ?_) 11 mo11 rfl (by as_aux_lemma => kernel_rfl) (by as_aux_lemma => kernel_rfl) (by as_aux_lemma => kernel_rfl) (fun _ _ _ h => h) (by rfl) hHeld ?_ ?_
    rotate_left
    · (unfold mo11; intro w hSw; (try dsimp only at hSw); go_simp)
      all_goals with_reducible rfl
    try simp only [Act.put, List.setIfInBounds_toArray, List.set_cons_zero, List.set_cons_succ]
    refine tkmO (v := ?_) 12 mo12 rfl (by as_aux_lemma => kernel_rfl) (by as_aux_lemma => kernel_rfl) (by as_aux_lemma => kernel_rfl) (fun _ _ _ h => h) (by rfl) hHeld ?_ ?_
    rotate_left
    · (unfold mo12; intro w hSw; (try dsimp only at hSw); go_simp)
      all_goals with_reducible rfl
    try simp only [Act.put, List.setIfInBounds_toArray, List.set_cons_zero, List.set_cons_succ]
    refine wpAnyH_ready (rs := [13]) (by as_aux_lemma => kernel_rfl) (by simp) ?_
    refine (AllReadyH.cons (o := mo13) rfl (fun K hK => ?_) AllReadyH.nil)
    unfold mo13; go_simp
    have hg := bel_alloc u3 (.cells #[(.string x.says), (.string x.pred), (.int .i64 x.n), (.bool x.t0.v), (.string x.t0.name), (.bool x.t1.v), (.string x.t1.name), (.bool x.t2.v), (.string x.t2.name), (.bool x.t3.v), (.string x.t3.name), (.string x.says), (.string x.pred), (.int .i64 x.n), (.bool x.t0.v), (.string x.t0.name), (.bool x.t1.v), (.string x.t1.name), (.bool x.t2.v), (.string x.t2.name), (.bool x.t3.v), (.string x.t3.name)] 27)
    have hN := al_lit u3 [x, x] #[(.string x.says), (.string x.pred), (.int .i64 x.n), (.bool x.t0.v), (.string x.t0.name), (.bool x.t1.v), (.string x.t1.name), (.bool x.t2.v), (.string x.t2.name), (.bool x.t3.v), (.string x.t3.name), (.string x.says), (.string x.pred), (.int .i64 x.n), (.bool x.t0.v), (.string x.t0.name), (.bool x.t1.v), (.string x.t1.name), (.bool x.t2.v), (.string x.t2.name), (.bool x.t3.v), (.string x.t3.name)] rfl _ rfl
    obtain ⟨u4, hW⟩ : ∃ wz, wz = u3.alloc (.cells #[(.string x.says), (.string x.pred), (.int .i64 x.n), (.bool x.t0.v), (.string x.t0.name), (.bool x.t1.v), (.string x.t1.name), (.bool x.t2.v), (.string x.t2.name), (.bool x.t3.v), (.string x.t3.name), (.string x.says), (.string x.pred), (.int .i64 x.n), (.bool x.t0.v), (.string x.t0.name), (.bool x.t1.v), (.string x.t1.name), (.bool x.t2.v), (.string x.t2.name), (.bool x.t3.v), (.string x.t3.name)] 27) := ⟨_, rfl⟩
    rw [← hW] at hg hN ⊢
    clear hW
    replace HP1 := Lib.hid (HP1.out.bel hg)
    replace HP2 := Lib.hid (HP2.out.bel hg)
    replace HP3 := Lib.hid (HP3.out.bel hg)
    replace HS := Lib.hid (HS.out.bel hg)
    replace HM := Lib.hid (HM.out.bel hg)
    replace HN := Lib.hid (HN.out.bel hg)
    replace HO := Lib.hid (HO.out.bel hg)
    replace HQ := Lib.hid (HQ.out.bel hg)
    replace hd := hd.trans' hg
    clear hg
    have HT65 := Lib.hid hN
    clear hN
    first | refine hK.out _ _ ?_ (fun hHeld => ?_) | (go_wp2_with fail; refine hK.out _ _ ?_ (fun hHeld => ?_))
    · (try dsimp only); exact ⟨HP1.out.cells, HP2.out.cells, HP3.out.cells⟩
    clear hK K
    try simp only [Act.put, List.setIfInBounds_toArray, List.set_cons_zero, List.set_cons_succ]
    refine wpAnyH_ready (rs := [14]) (by as_aux_lemma => kernel_rfl) (by simp) ?_
    refine (AllReadyH.cons (o := mo14) rfl (fun K hK => ?_) AllReadyH.nil)
    unfold mo14; go_simp
    go_at_call 14
    refine (hI2.out _ 2 _ HT65.out).mono ?_
    rintro e u5 ⟨rfl, hg⟩
    clear HT65
    replace HP1 := Lib.hid (HP1.out.bel hg)
    replace HP2 := Lib.hid (HP2.out.bel hg)
    replace HP3 := Lib.hid (HP3.out.bel hg)
    replace HS := Lib.hid (HS.out.bel hg)
    replace HM := Lib.hid (HM.out.bel hg)
    replace HN := Lib.hid (HN.out.bel hg)
    replace HO := Lib.hid (HO.out.bel hg)
    replace HQ := Lib.hid (HQ.out.bel hg)
    replace hd := hd.trans' hg
    clear hg
    first | refine hK.out _ _ ?_ (fun hHeld => ?_) | (go_wp2_with fail; refine hK.out _ _ ?_ (fun hHeld => ?_))
    · (try dsimp only); exact ⟨HP1.out.cells, HP2.out.cells, HP3.out.cells⟩
    clear hK K
    try simp only [Act.put, List.setIfInBounds_toArray, List.set_cons_zero, List.set_cons_succ]
    refine tkmO (v := ?_) 15 mo15 rfl (by as_aux_lemma => kernel_rfl) (by as_aux_lemma => kernel_rfl) (by as_aux_lemma => kernel_rfl) (fun _ _ _ h => h) (by rfl) hHeld ?_ ?_
    rotate_left
    · (unfold mo15; intro w hSw; (try dsimp only at hSw); go_simp)
      all_goals with_reducible rfl
    try simp only [Act.put, List.setIfInBounds_toArray, List.set_cons_zero, List.set_cons_succ]
    refine tkmO (v := ?_) 16 mo16 rfl (by as_aux_lemma => kernel_rfl) (by as_aux_lemma => kernel_rfl) (by as_aux_lemma => kernel_rfl) (fun _ _ _ h => h) (by rfl) hHeld ?_ ?_
    rotate_left
    · (unfold mo16; intro w hSw; (try dsimp only at hSw); go_simp)
      all_goals with_reducible rfl
    try simp only [Act.put, List.setIfInBounds_toArray, List.set_cons_zero, List.set_cons_succ]
    refine tkmO (v := ?_) 17 mo17 rfl (by as_aux_lemma => kernel_rfl) (by as_aux_lemma => kernel_rfl) (by as_aux_lemma => kernel_rfl) (fun _ _ _ h => h) (by rfl) hHeld ?_ ?_
    rotate_left
    · (unfold mo17; intro w hSw; (try dsimp only at hSw); go_simp)
      all_goals with_reducible rfl
    try simp only [Act.put, List.setIfInBounds_toArray, List.set_cons_zero, List.set_cons_succ]
    refine tkmO (v := ?_) 18 mo18 rfl (by as_aux_lemma => kernel_rfl) (by as_aux_lemma => kernel_rfl) (by as_aux_lemma => kernel_rfl) (fun _ _ _ h => h) (by rfl) hHeld ?_ ?_
    rotate_left
    · (unfold mo18; intro w hSw; (try dsimp only at hSw); go_simp)
      all_goals with_reducible rfl
    try simp only [Act.put, List.setIfInBounds_toArray, List.set_cons_zero, List.set_cons_succ]
    refine tkmO (v := ?_) 19 mo19 rfl (by as_aux_lemma => kernel_rfl) (by as_aux_lemma => kernel_rfl) (by as_aux_lemma => kernel_rfl) (fun _ _ _ h => h) (by rfl) hHeld ?_ ?_
    rotate_left
    · (unfold mo19; intro w hSw; (try dsimp only at hSw); go_simp)
      all_goals with_reducible rfl
    try simp only [Act.put, List.setIfInBounds_toArray, List.set_cons_zero, List.set_cons_succ]
    refine tkmO (v := ?_) 20 mo20 rfl (by as_aux_lemma => kernel_rfl) (by as_aux_lemma => kernel_rfl) (by as_aux_lemma => kernel_rfl) (fun _ _ _ h => h) (by rfl) hHeld ?_ ?_
    rotate_left
    · (unfold mo20; intro w hSw; (try dsimp only at hSw); go_simp)
      all_goals with_reducible rfl
    try simp only [Act.put, List.setIfInBounds_toArray, List.set_cons_zero, List.set_cons_succ]
    refine tkmO (v := ?_) 21 mo21 rfl (by as_aux_lemma => kernel_rfl) (by as_aux_lemma => kernel_rfl) (by as_aux_lemma => kernel_rfl) (fun _ _ _ h => h) (by rfl) hHeld ?_ ?_
    rotate_left
    · (unfold mo21; intro w hSw; (try dsimp only at hSw); go_simp)
      all_goals with_reducible rfl
    try simp only [Act.put, List.setIfInBounds_toArray, List.set_cons_zero, List.set_cons_succ]
    refine tkmO (v := ?_) 22 mo22 rfl (by as_aux_lemma => kernel_rfl) (by as_aux_lemma => kernel_rfl) (by as_aux_lemma => kernel_rfl) (fun _ _ _ h => h) (by rfl) hHeld ?_ ?_
    rotate_left
    · (unfold mo22; intro w hSw; (try dsimp only at hSw); go_simp)
      all_goals with_reducible rfl
    try simp only [Act.put, List.setIfInBounds_toArray, List.set_cons_zero, List.set_cons_succ]
    refine tkmO (v := ?_) 23 mo23 rfl (by as_aux_lemma => kernel_rfl) (by as_aux_lemma => kernel_rfl) (by as_aux_lemma => kernel_rfl) (fun _ _ _ h => h) (by rfl) hHeld ?_ ?_
    rotate_left
    · (unfold mo23; intro w hSw; (try dsimp only at hSw); go_simp)
      all_goals with_reducible rfl
    try simp only [Act.put, List.setIfInBounds_toArray, List.set_cons_zero, List.set_cons_succ]
    refine wpAnyH_ready (rs := [24]) (by as_aux_lemma => kernel_rfl) (by simp) ?_
    refine (AllReadyH.cons (o := mo24) rfl (fun K hK => ?_) AllReadyH.nil)
    unfold mo24; go_simp
    have hg := bel_alloc u5 (.cells #[(.string x.says), (.string x.pred), (.int .i64 x.n), (.bool x.t0.v), (.string x.t0.name), (.bool x.t1.v), (.string x.t1.name), (.bool x.t2.v), (.string x.t2.name), (.bool x.t3.v), (.string x.t3.name), (.string z.says), (.string z.pred), (.int .i64 z.n), (.bool z.t0.v), (.string z.t0.name), (.bool z.t1.v), (.string z.t1.name), (.bool z.t2.v), (.string z.t2.name), (.bool z.t3.v), (.string z.t3.name)] 27)
    have hN := al_lit u5 [x, z] #[(.string x.says), (.string x.pred), (.int .i64 x.n), (.bool x.t0.v), (.string x.t0.name), (.bool x.t1.v), (.string x.t1.name), (.bool x.t2.v), (.string x.t2.name), (.bool x.t3.v), (.string x.t3.name), (.string z.says), (.string z.pred), (.int .i64 z.n), (.bool z.t0.v), (.string z.t0.name), (.bool z.t1.v), (.string z.t1.name), (.bool z.t2.v), (.string z.t2.name), (.bool z.t3.v), (.string z.t3.name)] rfl _ rfl
    obtain ⟨u6, hW⟩ : ∃ wz, wz = u5.alloc (.cells #[(.string x.says), (.string x.pred), (.int .i64 x.n), (.bool x.t0.v), (.string x.t0.name), (.bool x.t1.v), (.string x.t1.name), (.bool x.t2.v), (.string x.t2.name), (.bool x.t3.v), (.string x.t3.name), (.string z.says), (.string z.pred), (.int .i64 z.n), (.bool z.t0.v), (.string z.t0.name), (.bool z.t1.v), (.string z.t1.name), (.bool z.t2.v), (.string z.t2.name), (.bool z.t3.v), (.string z.t3.name)] 27) := ⟨_, rfl⟩
    rw [← hW] at hg hN ⊢
    clear hW
    replace HP1 := Lib.hid (HP1.out.bel hg)
    replace HP2 := Lib.hid (HP2.out.bel hg)
    replace HP3 := Lib.hid (HP3.out.bel hg)
    replace HS := Lib.hid (HS.out.bel hg)
    replace HM := Lib.hid (HM.out.bel hg)
    replace HN := Lib.hid (HN.out.bel hg)
    replace HO := Lib.hid (HO.out.bel hg)
    replace HQ := Lib.hid (HQ.out.bel hg)
    replace hd := hd.trans' hg
    clear hg
    have HT76 := Lib.hid hN
    clear hN
    first | refine hK.out _ _ ?_ (fun hHeld => ?_) | (go_wp2_with fail; refine hK.out _ _ ?_ (fun hHeld => ?_))
    · (try dsimp only); exact ⟨HP1.out.cells, HP2.out.cells, HP3.out.cells⟩
    clear hK K
    try simp only [Act.put, List.setIfInBounds_toArray, List.set_cons_zero, List.set_cons_succ]
    refine wpAnyH_ready (rs := [25]) (by as_aux_lemma => kernel_rfl) (by simp) ?_
    refine (AllReadyH.cons (o := mo25) rfl (fun K hK => ?_) AllReadyH.nil)
    unfold mo25; go_simp
    go_at_call 13
    refine (sameA_any qm [x, z] 2 cm rfl _ 2 2 rfl _ HM.out HT76.out (by simp)).mono ?_
    rintro e u7 ⟨rfl, hg⟩
    clear HT76 HM
    replace HP1 := Lib.hid (HP1.out.bel hg)
    replace HP2 := Lib.hid (HP2.out.bel hg)
    replace HP3 := Lib.hid (HP3.out.bel hg)
    replace HS := Lib.hid (HS.out.bel hg)
    replace HN := Lib.hid (HN.out.bel hg)
    replace HO := Lib.hid (HO.out.bel hg)
    replace HQ := Lib.hid (HQ.out.bel hg)
    replace hd := hd.trans' hg
    clear hg
    first | refine hK.out _ _ ?_ (fun hHeld => ?_) | (go_wp2_with fail; refine hK.out _ _ ?_ (fun hHeld => ?_))
    · (try dsimp only); exact ⟨HP1.out.cells, HP2.out.cells, HP3.out.cells⟩
    clear hK K
    try simp only [Act.put, List.setIfInBounds_toArray, List.set_cons_zero, List.set_cons_succ]
    refine tkmO (v := ?_) 26 mo26 rfl (by as_aux_lemma => kernel_rfl) (by as_aux_lemma => kernel_rfl) (by as_aux_lemma => kernel_rfl) (fun _ _ _ h => h) (by rfl) hHeld ?_ ?_
    rotate_left
    · (unfold mo26; intro w hSw; (try dsimp only at hSw); go_simp)
      all_goals with_reducible rfl
    try simp only [Act.put, List.setIfInBounds_toArray, List.set_cons_zero, List.set_cons_succ]
    refine tkmO (v := ?_) 27 mo27 rfl (by as_aux_lemma => kernel_rfl) (by as_aux_lemma => kernel_rfl) (by as_aux_lemma => kernel_rfl) (fun _ _ _ h => h) (by rfl) hHeld ?_ ?_
    rotate_left
    · (unfold mo27; intro w hSw; (try dsimp only at hSw); go_simp)
      all_goals with_reducible rfl
    try simp only [Act.put, List.setIfInBounds_toArray, List.set_cons_zero, List.set_cons_succ]
    refine tkmO (v := ?_) 28 mo28 rfl (by as_aux_lemma => kernel_rfl) (by as_aux_lemma => kernel_rfl) (by as_aux_lemma => kernel_rfl) (fun _ _ _ h => h) (by rfl) hHeld ?_ ?_
    rotate_left
    · (unfold mo28; intro w hSw; (try dsimp only at hSw); go_simp)
      all_goals with_reducible rfl
    try simp only [Act.put, List.setIfInBounds_toArray, List.set_cons_zero, List.set_cons_succ]
    refine tkmO (v := ?_) 29 mo29 rfl (by as_aux_lemma => kernel_rfl) (by as_aux_lemma => kernel_rfl) (by as_aux_lemma => kernel_rfl) (fun _ _ _ h => h) (by rfl) hHeld ?_ ?_
    rotate_left
    · (unfold mo29; intro w hSw; (try dsimp only at hSw); go_simp)
      all_goals with_reducible rfl
    try simp only [Act.put, List.setIfInBounds_toArray, List.set_cons_zero, List.set_cons_succ]
    refine tkmO (v := ?_) 30 mo30 rfl (by as_aux_lemma => kernel_rfl) (by as_aux_lemma => kernel_rfl) (by as_aux_lemma => kernel_rfl) (fun _ _ _ h => h) (by rfl) hHeld ?_ ?_
    rotate_left
    · (unfold mo30; intro w hSw; (try dsimp only at hSw); go_simp)
      all_goals with_reducible rfl
    try simp only [Act.put, List.setIfInBounds_toArray, List.set_cons_zero, List.set_cons_succ]
    refine tkmO (v := ?_) 31 mo31 rfl (by as_aux_lemma => kernel_rfl) (by as_aux_lemma => kernel_rfl) (by as_aux_lemma => kernel_rfl) (fun _ _ _ h => h) (by rfl) hHeld ?_ ?_
    rotate_left
    · (unfold mo31; intro w hSw; (try dsimp only at hSw); go_simp)
      all_goals with_reducible rfl
    try simp only [Act.put, List.setIfInBounds_toArray, List.set_cons_zero, List.set_cons_succ]
    refine tkmO (v := ?_) 32 mo32 rfl (by as_aux_lemma => kernel_rfl) (by as_aux_lemma => kernel_rfl) (by as_aux_lemma => kernel_rfl) (fun _ _ _ h => h) (by rfl) hHeld ?_ ?_
    rotate_left
    · (unfold mo32; intro w hSw; (try dsimp only at hSw); go_simp)
      all_goals with_reducible rfl
    try simp only [Act.put, List.setIfInBounds_toArray, List.set_cons_zero, List.set_cons_succ]
    refine tkmO (v := ?_) 33 mo33 rfl (by as_aux_lemma => kernel_rfl) (by as_aux_lemma => kernel_rfl) (by as_aux_lemma => kernel_rfl) (fun _ _ _ h => h) (by rfl) hHeld ?_ ?_
    rotate_left
    · (unfold mo33; intro w hSw; (try dsimp only at hSw); go_simp)
      all_goals with_reducible rfl
    try simp only [Act.put, List.setIfInBounds_toArray, List.set_cons_zero, List.set_cons_succ]
    refine wpAnyH_ready (rs := [34]) (by as_aux_lemma => kernel_rfl) (by simp) ?_
    refine (AllReadyH.cons (o := mo34) rfl (fun K hK => ?_) AllReadyH.nil)
    unfold mo34; go_simp
    go_at_call 13
    refine (sameA_any qn [x, y, z] 3 cn rfl (some ⟨gs, 0, none⟩) 3 cs rfl _ HN.out HS.out (by simp)).mono ?_
    rintro e u8 ⟨rfl, hg⟩
    clear HN
    replace HP1 := Lib.hid (HP1.out.bel hg)
    replace HP2 := Lib.hid (HP2.out.bel hg)
    replace HP3 := Lib.hid (HP3.out.bel hg)
    replace HS := Lib.hid (HS.out.bel hg)
    replace HO := Lib.hid (HO.out.bel hg)
    replace HQ := Lib.hid (HQ.out.bel hg)
    replace hd := hd.trans' hg
    clear hg
    first | refine hK.out _ _ ?_ (fun hHeld => ?_) | (go_wp2_with fail; refine hK.out _ _ ?_ (fun hHeld => ?_))
    · (try dsimp only); exact ⟨HP1.out.cells, HP2.out.cells, HP3.out.cells⟩
    clear hK K
    try simp only [Act.put, List.setIfInBounds_toArray, List.set_cons_zero, List.set_cons_succ]
    refine tkmO (v := ?_) 35 mo35 rfl (by as_aux_lemma => kernel_rfl) (by as_aux_lemma => kernel_rfl) (by as_aux_lemma => kernel_rfl) (fun _ _ _ h => h) (by rfl) hHeld ?_ ?_
    rotate_left
    · (unfold mo35; intro w hSw; (try dsimp only at hSw); go_simp)
      all_goals with_reducible rfl
    try simp only [Act.put, List.setIfInBounds_toArray, List.set_cons_zero, List.set_cons_succ]
    refine tkmO (v := ?_) 36 mo36 rfl (by as_aux_lemma => kernel_rfl) (by as_aux_lemma => kernel_rfl) (by as_aux_lemma => kernel_rfl) (fun _ _ _ h => h) (by rfl) hHeld ?_ ?_
    rotate_left
    · (unfold mo36; intro w hSw; (try dsimp only at hSw); go_simp)
      all_goals with_reducible rfl
    try simp only [Act.put, List.setIfInBounds_toArray, List.set_cons_zero, List.set_cons_succ]
    refine tkmO (v := ?_) 37 mo37 rfl (by as_aux_lemma => kernel_rfl) (by as_aux_lemma => kernel_rfl) (by as_aux_lemma => kernel_rfl) (fun _ _ _ h => h) (by rfl) hHeld ?_ ?_
    rotate_left
    · (unfold mo37; intro w hSw; (try dsimp only at hSw); go_simp)
      all_goals with_reducible rfl
    try simp only [Act.put, List.setIfInBounds_toArray, List.set_cons_zero, List.set_cons_succ]
    refine tkmO (v := ?_) 38 mo38 rfl (by as_aux_lemma => kernel_rfl) (by as_aux_lemma => kernel_rfl) (by as_aux_lemma => kernel_rfl) (fun _ _ _ h => h) (by rfl) hHeld ?_ ?_
    rotate_left
    · (unfold mo38; intro w hSw; (try dsimp only at hSw); go_simp)
      all_goals with_reducible rfl
    try simp only [Act.put, List.setIfInBounds_toArray, List.set_cons_zero, List.set_cons_succ]
    refine tkmO (v := ?_) 39 mo39 rfl (by as_aux_lemma => kernel_rfl) (by as_aux_lemma => kernel_rfl) (by as_aux_lemma => kernel_rfl) (fun _ _ _ h => h) (by rfl) hHeld ?_ ?_
    rotate_left
    · (unfold mo39; intro w hSw; (try dsimp only at hSw); go_simp)
      all_goals with_reducible rfl
    try simp only [Act.put, List.setIfInBounds_toArray, List.set_cons_zero, List.set_cons_succ]
    refine tkmO (v := ?_) 40 mo40 rfl (by as_aux_lemma => kernel_rfl) (by as_aux_lemma => kernel_rfl) (by as_aux_lemma => kernel_rfl) (fun _ _ _ h => h) (by rfl) hHeld ?_ ?_
    rotate_left
    · (unfold mo40; intro w hSw; (try dsimp only at hSw); go_simp)
      all_goals with_reducible rfl
    try simp only [Act.put, List.setIfInBounds_toArray, List.set_cons_zero, List.set_cons_succ]
    refine tkmO (v := ?_) 41 mo41 rfl (by as_aux_lemma => kernel_rfl) (by as_aux_lemma => kernel_rfl) (by as_aux_lemma => kernel_rfl) (fun _ _ _ h => h) (by rfl) hHeld ?_ ?_
    rotate_left
    · (unfold mo41; intro w hSw; (try dsimp only at hSw); go_simp)
      all_goals with_reducible rfl
    try simp only [Act.put, List.setIfInBounds_toArray, List.set_cons_zero, List.set_cons_succ]
    refine tkmO (v := ?_) 42 mo42 rfl (by as_aux_lemma => kernel_rfl) (by as_aux_lemma => kernel_rfl) (by as_aux_lemma => kernel_rfl) (fun _ _ _ h => h) (by rfl) hHeld ?_ ?_
    rotate_left
    · (unfold mo42; intro w hSw; (try dsimp only at hSw); go_simp)
      all_goals with_reducible rfl
    try simp only [Act.put, List.setIfInBounds_toArray, List.set_cons_zero, List.set_cons_succ]
    refine wpAnyH_ready (rs := [43]) (by as_aux_lemma => kernel_rfl) (by simp) ?_
    refine (AllReadyH.cons (o := mo43) rfl (fun K hK => ?_) AllReadyH.nil)
    unfold mo43; go_simp
    have hg := bel_alloc u8 (.cells #[(.string x.says), (.string x.pred), (.int .i64 x.n), (.bool x.t0.v), (.string x.t0.name), (.bool x.t1.v), (.string x.t1.name), (.bool x.t2.v), (.string x.t2.name), (.bool x.t3.v), (.string x.t3.name), (.string z.says), (.string z.pred), (.int .i64 z.n), (.bool z.t0.v), (.string z.t0.name), (.bool z.t1.v), (.string z.t1.name), (.bool z.t2.v), (.string z.t2.name), (.bool z.t3.v), (.string z.t3.name)] 27)
    have hN := al_lit u8 [x, z] #[(.string x.says), (.string x.pred), (.int .i64 x.n), (.bool x.t0.v), (.string x.t0.name), (.bool x.t1.v), (.string x.t1.name), (.bool x.t2.v), (.string x.t2.name), (.bool x.t3.v), (.string x.t3.name), (.string z.says), (.string z.pred), (.int .i64 z.n), (.bool z.t0.v), (.string z.t0.name), (.bool z.t1.v), (.string z.t1.name), (.bool z.t2.v), (.string z.t2.name), (.bool z.t3.v), (.string z.t3.name)] rfl _ rfl
    obtain ⟨u9, hW⟩ : ∃ wz, wz = u8.alloc (.cells #[(.string x.says), (.string x.pred), (.int .i64 x.n), (.bool x.t0.v), (.string x.t0.name), (.bool x.t1.v), (.string x.t1.name), (.bool x.t2.v), (.string x.t2.name), (.bool x.t3.v), (.string x.t3.name), (.string z.says), (.string z.pred), (.int .i64 z.n), (.bool z.t0.v), (.string z.t0.name), (.bool z.t1.v), (.string z.t1.name), (.bool z.t2.v), (.string z.t2.name), (.bool z.t3.v), (.string z.t3.name)] 27) := ⟨_, rfl⟩
    rw [← hW] at hg hN ⊢
    clear hW
    replace HP1 := Lib.hid (HP1.out.bel hg)
    replace HP2 := Lib.hid (HP2.out.bel hg)
    replace HP3 := Lib.hid (HP3.out.bel hg)
    replace HS := Lib.hid (HS.out.bel hg)
    replace HO := Lib.hid (HO.out.bel hg)
    replace HQ := Lib.hid (HQ.out.bel hg)
    replace hd := hd.trans' hg
    clear hg
    have HT95 := Lib.hid hN
    clear hN
    first | refine hK.out _ _ ?_ (fun hHeld => ?_) | (go_wp2_with fail; refine hK.out _ _ ?_ (fun hHeld => ?_))
    · (try dsimp only); exact ⟨HP1.out.cells, HP2.out.cells, HP3.out.cells⟩
    clear hK K
    try simp only [Act.put, List.setIfInBounds_toArray, List.set_cons_zero, List.set_cons_succ]
    refine wpAnyH_ready (rs := [44]) (by as_aux_lemma => kernel_rfl) (by simp) ?_
    refine (AllReadyH.cons (o := mo44) rfl (fun K hK => ?_) AllReadyH.nil)
    unfold mo44; go_simp
    go_at_call 13
    refine (sameA_any qo [x, z] 2 co rfl _ 2 2 rfl _ HO.out HT95.out (by simp)).mono ?_
    rintro e u10 ⟨rfl, hg⟩
    clear HT95
    replace HP1 := Lib.hid (HP1.out.bel hg)
    replace HP2 := Lib.hid (HP2.out.bel hg)
    replace HP3 := Lib.hid (HP3.out.bel hg)
    replace HS := Lib.hid (HS.out.bel hg)
    replace HO := Lib.hid (HO.out.bel hg)
    replace HQ := Lib.hid (HQ.out.bel hg)
    replace hd := hd.trans' hg
    clear hg
    first | refine hK.out _ _ ?_ (fun hHeld => ?_) | (go_wp2_with fail; refine hK.out _ _ ?_ (fun hHeld => ?_))
    · (try dsimp only); exact ⟨HP1.out.cells, HP2.out.cells, HP3.out.cells⟩
    clear hK K
    try simp only [Act.put, List.setIfInBounds_toArray, List.set_cons_zero, List.set_cons_succ]
    refine tkmO (v := ?_) 45 mo45 rfl (by as_aux_lemma => kernel_rfl) (by as_aux_lemma => kernel_rfl) (by as_aux_lemma => kernel_rfl) (fun _ _ _ h => h) (by rfl) hHeld ?_ ?_
    rotate_left
    · (unfold mo45; intro w hSw; (try dsimp only at hSw); go_simp)
      all_goals with_reducible rfl
    try simp only [Act.put, List.setIfInBounds_toArray, List.set_cons_zero, List.set_cons_succ]
    refine tkmO (v := ?_) 46 mo46 rfl (by as_aux_lemma => kernel_rfl) (by as_aux_lemma => kernel_rfl) (by as_aux_lemma => kernel_rfl) (fun _ _ _ h => h) (by rfl) hHeld ?_ ?_
    rotate_left
    · (unfold mo46; intro w hSw; (try dsimp only at hSw); go_simp)
      all_goals with_reducible rfl
    try simp only [Act.put, List.setIfInBounds_toArray, List.set_cons_zero, List.set_cons_succ]
    refine tkmO (v := ?_) 47 mo47 rfl (by as_aux_lemma => kernel_rfl) (by as_aux_lemma => kernel_rfl) (by as_aux_lemma => kernel_rfl) (fun _ _ _ h => h) (by rfl) hHeld ?_ ?_
    rotate_left
    · (unfold mo47; intro w hSw; (try dsimp only at hSw); go_simp)
      all_goals with_reducible rfl
    try simp only [Act.put, List.setIfInBounds_toArray, List.set_cons_zero, List.set_cons_succ]
    refine tkmO (v := ?_) 48 mo48 rfl (by as_aux_lemma => kernel_rfl) (by as_aux_lemma => kernel_rfl) (by as_aux_lemma => kernel_rfl) (fun _ _ _ h => h) (by rfl) hHeld ?_ ?_
    rotate_left
    · (unfold mo48; intro w hSw; (try dsimp only at hSw); go_simp)
      all_goals with_reducible rfl
    try simp only [Act.put, List.setIfInBounds_toArray, List.set_cons_zero, List.set_cons_succ]
    refine tkmO (v := ?_) 49 mo49 rfl (by as_aux_lemma => kernel_rfl) (by as_aux_lemma => kernel_rfl) (by as_aux_lemma => kernel_rfl) (fun _ _ _ h => h) (by rfl) hHeld ?_ ?_
    rotate_left
    · (unfold mo49; intro w hSw; (try dsimp only at hSw); go_simp)
      all_goals with_reducible rfl
    try simp only [Act.put, List.setIfInBounds_toArray, List.set_cons_zero, List.set_cons_succ]
    refine tkmO (v := ?_) 50 mo50 rfl (by as_aux_lemma => kernel_rfl) (by as_aux_lemma => kernel_rfl) (by as_aux_lemma => kernel_rfl) (fun _ _ _ h => h) (by rfl) hHeld ?_ ?_
    rotate_left
    · (unfold mo50; intro w hSw; (try dsimp only at hSw); go_simp)
      all_goals with_reducible rfl
    try simp only [Act.put, List.setIfInBounds_toArray, List.set_cons_zero, List.set_cons_succ]
    refine tkmO (v := ?_) 51 mo51 rfl (by as_aux_lemma => kernel_rfl) (by as_aux_lemma => kernel_rfl) (by as_aux_lemma => kernel_rfl) (fun _ _ _ h => h) (by rfl) hHeld ?_ ?_
    rotate_left
    · (unfold mo51; intro w hSw; (try dsimp only at hSw); go_simp)
      all_goals with_reducible rfl
    try simp only [Act.put, List.setIfInBounds_toArray, List.set_cons_zero, List.set_cons_succ]
    refine tkmO (v := ?_) 52 mo52 rfl (by as_aux_lemma => kernel_rfl) (by as_aux_lemma => kernel_rfl) (by as_aux_lemma => kernel_rfl) (fun _ _ _ h => h) (by rfl) hHeld ?_ ?_
    rotate_left
    · (unfold mo52; intro w hSw; (try dsimp only at hSw); go_simp)
      all_goals with_reducible rfl
    try simp only [Act.put, List.setIfInBounds_toArray, List.set_cons_zero, List.set_cons_succ]
    refine wpAnyH_ready (rs := [53]) (by as_aux_lemma => kernel_rfl) (by simp) ?_
    refine (AllReadyH.cons (o := mo53) rfl (fun K hK => ?_) AllReadyH.nil)
    unfold mo53; go_simp
    go_at_call 13
    refine (sameA_any qq [x, z] 2 cq rfl qo 2 co rfl _ HQ.out HO.out (by simp)).mono ?_
    rintro e u11 ⟨rfl, hg⟩
    clear HQ
    replace HP1 := Lib.hid (HP1.out.bel hg)
    replace HP2 := Lib.hid (HP2.out.bel hg)
    replace HP3 := Lib.hid (HP3.out.bel hg)
    replace HS := Lib.hid (HS.out.bel hg)
    replace HO := Lib.hid (HO.out.bel hg)
    replace hd := hd.trans' hg
    clear hg
    first | refine hK.out _ _ ?_ (fun hHeld => ?_) | (go_wp2_with fail; refine hK.out _ _ ?_ (fun hHeld => ?_))
    · (try dsimp only); exact ⟨HP1.out.cells, HP2.out.cells, HP3.out.cells⟩
    clear hK K
    try simp only [Act.put, List.setIfInBounds_toArray, List.set_cons_zero, List.set_cons_succ]
    refine tkmO (v := ?_) 54 mo54 rfl (by as_aux_lemma => kernel_rfl) (by as_aux_lemma => kernel_rfl) (by as_aux_lemma => kernel_rfl) (fun _ _ _ h => h) (by rfl) hHeld ?_ ?_
    rotate_left
    · (unfold mo54; intro w hSw; (try dsimp only at hSw); go_simp)
      all_goals with_reducible rfl
    try simp only [Act.put, List.setIfInBounds_toArray, List.set_cons_zero, List.set_cons_succ]
    refine tkmO (v := ?_) 55 mo55 rfl (by as_aux_lemma => kernel_rfl) (by as_aux_lemma => kernel_rfl) (by as_aux_lemma => kernel_rfl) (fun _ _ _ h => h) (by rfl) hHeld ?_ ?_
    rotate_left
    · (unfold mo55; intro w hSw; (try dsimp only at hSw); go_simp)
      all_goals with_reducible rfl
    try simp only [Act.put, List.setIfInBounds_toArray, List.set_cons_zero, List.set_cons_succ]
    refine tkmO (v := ?_) 56 mo56 rfl (by as_aux_lemma => kernel_rfl) (by as_aux_lemma => kernel_rfl) (by as_aux_lemma => kernel_rfl) (fun _ _ _ h => h) (by rfl) hHeld ?_ ?_
    rotate_left
    · (unfold mo56; intro w hSw; (try dsimp only at hSw); go_simp)
      all_goals with_reducible rfl
    try simp only [Act.put, List.setIfInBounds_toArray, List.set_cons_zero, List.set_cons_succ]
    refine tkmO (v := ?_) 57 mo57 rfl (by as_aux_lemma => kernel_rfl) (by as_aux_lemma => kernel_rfl) (by as_aux_lemma => kernel_rfl) (fun _ _ _ h => h) (by rfl) hHeld ?_ ?_
    rotate_left
    · (unfold mo57; intro w hSw; (try dsimp only at hSw); go_simp)
      all_goals with_reducible rfl
    try simp only [Act.put, List.setIfInBounds_toArray, List.set_cons_zero, List.set_cons_succ]
    refine wpAnyH_ready (rs := [58]) (by as_aux_lemma => kernel_rfl) (by simp) ?_
    refine (AllReadyH.cons (o := mo58) rfl (fun K hK => ?_) AllReadyH.nil)
    unfold mo58; go_simp
    go_at_call 15
    refine (hH1.out _ _ _ HS.out).mono ?_
    rintro e u12 ⟨rfl, hg⟩
    replace HP1 := Lib.hid (HP1.out.bel hg)
    replace HP2 := Lib.hid (HP2.out.bel hg)
    replace HP3 := Lib.hid (HP3.out.bel hg)
    replace HS := Lib.hid (HS.out.bel hg)
    replace HO := Lib.hid (HO.out.bel hg)
    replace hd := hd.trans' hg
    clear hg
    first | refine hK.out _ _ ?_ (fun hHeld => ?_) | (go_wp2_with fail; refine hK.out _ _ ?_ (fun hHeld => ?_))
    · (try dsimp only); exact ⟨HP1.out.cells, HP2.out.cells, HP3.out.cells⟩
    clear hK K
    try simp only [Act.put, List.setIfInBounds_toArray, List.set_cons_zero, List.set_cons_succ]
    refine tkmO (v := ?_) 59 mo59 rfl (by as_aux_lemma => kernel_rfl) (by as_aux_lemma => kernel_rfl) (by as_aux_lemma => kernel_rfl) (fun _ _ _ h => h) (by rfl) hHeld ?_ ?_
    rotate_left
    · (unfold mo59; intro w hSw; (try dsimp only at hSw); go_simp)
      all_goals with_reducible rfl
    try simp only [Act.put, List.setIfInBounds_toArray, List.set_cons_zero, List.set_cons_succ]
    refine tkmO (v := ?_) 60 mo60 rfl (by as_aux_lemma => kernel_rfl) (by as_aux_lemma => kernel_rfl) (by as_aux_lemma => kernel_rfl) (fun _ _ _ h => h) (by rfl) hHeld ?_ ?_
    rotate_left
    · (unfold mo60; intro w hSw; (try dsimp only at hSw); go_simp)
      all_goals with_reducible rfl
    try simp only [Act.put, List.setIfInBounds_toArray, List.set_cons_zero, List.set_cons_succ]
    refine tkmO (v := ?_) 61 mo61 rfl (by as_aux_lemma => kernel_rfl) (by as_aux_lemma => kernel_rfl) (by as_aux_lemma => kernel_rfl) (fun _ _ _ h => h) (by rfl) hHeld ?_ ?_
    rotate_left
    · (unfold mo61; intro w hSw; (try dsimp only at hSw); go_simp)
      all_goals with_reducible rfl
    try simp only [Act.put, List.setIfInBounds_toArray, List.set_cons_zero, List.set_cons_succ]
    refine tkmO (v := ?_) 62 mo62 rfl (by as_aux_lemma => kernel_rfl) (by as_aux_lemma => kernel_rfl) (by as_aux_lemma => kernel_rfl) (fun _ _ _ h => h) (by rfl) hHeld ?_ ?_
    rotate_left
    · (unfold mo62; intro w hSw; (try dsimp only at hSw); go_simp)
      all_goals with_reducible rfl
    try simp only [Act.put, List.setIfInBounds_toArray, List.set_cons_zero, List.set_cons_succ]
    refine wpAnyH_ready (rs := [63]) (by as_aux_lemma => kernel_rfl) (by simp) ?_
    refine (AllReadyH.cons (o := mo63) rfl (fun K hK => ?_) AllReadyH.nil)
    unfold mo63; go_simp
    go_at_call 15
    refine (hH2.out _ _ _ HO.out).mono ?_
    rintro e u13 ⟨rfl, hg⟩
    replace HP1 := Lib.hid (HP1.out.bel hg)
    replace HP2 := Lib.hid (HP2.out.bel hg)
    replace HP3 := Lib.hid (HP3.out.bel hg)
    replace HS := Lib.hid (HS.out.bel hg)
    replace HO := Lib.hid (HO.out.bel hg)
    replace hd := hd.trans' hg
    clear hg
    first | refine hK.out _ _ ?_ (fun hHeld => ?_) | (go_wp2_with fail; refine hK.out _ _ ?_ (fun hHeld => ?_))
    · (try dsimp only); exact ⟨HP1.out.cells, HP2.out.cells, HP3.out.cells⟩
    clear hK K
    try simp only [Act.put, List.setIfInBounds_toArray, List.set_cons_zero, List.set_cons_succ]
    refine tkmO (v := ?_) 64 mo64 rfl (by as_aux_lemma => kernel_rfl) (by as_aux_lemma => kernel_rfl) (by as_aux_lemma => kernel_rfl) (fun _ _ _ h => h) (by rfl) hHeld ?_ ?_
    rotate_left
    · (unfold mo64; intro w hSw; (try dsimp only at hSw); go_simp)
      all_goals with_reducible rfl
    try simp only [Act.put, List.setIfInBounds_toArray, List.set_cons_zero, List.set_cons_succ]
    refine tkmO (v := ?_) 65 mo65 rfl (by as_aux_lemma => kernel_rfl) (by as_aux_lemma => kernel_rfl) (by as_aux_lemma => kernel_rfl) (fun _ _ _ h => h) (by rfl) hHeld ?_ ?_
    rotate_left
    · (unfold mo65; intro w hSw; (try dsimp only at hSw); go_simp)
      all_goals with_reducible rfl
    try simp only [Act.put, List.setIfInBounds_toArray, List.set_cons_zero, List.set_cons_succ]
    refine tkmO (v := ?_) 66 mo66 rfl (by as_aux_lemma => kernel_rfl) (by as_aux_lemma => kernel_rfl) (by as_aux_lemma => kernel_rfl) (fun _ _ _ h => h) (by rfl) hHeld ?_ ?_
    rotate_left
    · (unfold mo66; intro w hSw; (try dsimp only at hSw); go_simp)
      all_goals with_reducible rfl
    try simp only [Act.put, List.setIfInBounds_toArray, List.set_cons_zero, List.set_cons_succ]
    refine tkmO (v := ?_) 67 mo67 rfl (by as_aux_lemma => kernel_rfl) (by as_aux_lemma => kernel_rfl) (by as_aux_lemma => kernel_rfl) (fun _ _ _ h => h) (by rfl) hHeld ?_ ?_
    rotate_left
    · (unfold mo67; intro w hSw; (try dsimp only at hSw); go_simp)
      all_goals with_reducible rfl
    try simp only [Act.put, List.setIfInBounds_toArray, List.set_cons_zero, List.set_cons_succ]
    refine tkmO (v := ?_) 68 mo68 rfl (by as_aux_lemma => kernel_rfl) (by as_aux_lemma => kernel_rfl) (by as_aux_lemma => kernel_rfl) (fun _ _ _ h => h) (by rfl) hHeld ?_ ?_
    rotate_left
    · (unfold mo68; intro w hSw; (try dsimp only at hSw); go_simp)
      all_goals with_reducible rfl
    try simp only [Act.put, List.setIfInBounds_toArray, List.set_cons_zero, List.set_cons_succ]
    refine tkmO (v := ?_) 70 mo70 rfl (by as_aux_lemma => kernel_rfl) (by as_aux_lemma => kernel_rfl) (by as_aux_lemma => kernel_rfl) (fun _ _ _ h => h) (by rfl) hHeld ?_ ?_
    rotate_left
    · (unfold mo70; intro w hSw; (try dsimp only at hSw); go_simp)
      all_goals with_reducible rfl
    try simp only [Act.put, List.setIfInBounds_toArray, List.set_cons_zero, List.set_cons_succ]
    refine tkmO (v := ?_) 73 mo73 rfl (by as_aux_lemma => kernel_rfl) (by as_aux_lemma => kernel_rfl) (by as_aux_lemma => kernel_rfl) (fun _ _ _ h => h) (by rfl) hHeld ?_ ?_
    rotate_left
    · (unfold mo73; intro w hSw; (try dsimp only at hSw); go_simp)
      all_goals with_reducible rfl
    try simp only [Act.put, List.setIfInBounds_toArray, List.set_cons_zero, List.set_cons_succ]
    refine wpAnyH_ready (rs := [69]) (by as_aux_lemma => kernel_rfl) (by simp) ?_
    refine (AllReadyH.cons (o := mo69) rfl (fun K hK => ?_) AllReadyH.nil)
    unfold mo69; go_simp
    have hg := bel_alloc u13 (.cells #[(.string y.says), (.string y.pred), (.int .i64 y.n), (.bool y.t0.v), (.string y.t0.name), (.bool y.t1.v), (.string y.t1.name), (.bool y.t2.v), (.string y.t2.name), (.bool y.t3.v), (.string y.t3.name)] 27)
    have hN := al_lit u13 [y] #[(.string y.says), (.string y.pred), (.int .i64 y.n), (.bool y.t0.v), (.string y.t0.name), (.bool y.t1.v), (.string y.t1.name), (.bool y.t2.v), (.string y.t2.name), (.bool y.t3.v), (.string y.t3.name)] rfl _ rfl
    obtain ⟨u14, hW⟩ : ∃ wz, wz = u13.alloc (.cells #[(.string y.says), (.string y.pred), (.int .i64 y.n), (.bool y.t0.v), (.string y.t0.name), (.bool y.t1.v), (.string y.t1.name), (.bool y.t2.v), (.string y.t2.name), (.bool y.t3.v), (.string y.t3.name)] 27) := ⟨_, rfl⟩
    rw [← hW] at hg hN ⊢
    clear hW
    replace HP1 := Lib.hid (HP1.out.bel hg)
    replace HP2 := Lib.hid (HP2.out.bel hg)
    replace HP3 := Lib.hid (HP3.out.bel hg)
    replace HS := Lib.hid (HS.out.bel hg)
    replace HO := Lib.hid (HO.out.bel hg)
    replace hd := hd.trans' hg
    clear hg
    have HT121 := Lib.hid hN
    clear hN
    first | refine hK.out _ _ ?_ (fun hHeld => ?_) | (go_wp2_with fail; refine hK.out _ _ ?_ (fun hHeld => ?_))
    · (try dsimp only); exact ⟨HP1.out.cells, HP2.out.cells, HP3.out.cells⟩
    clear hK K
    try simp only [Act.put, List.setIfInBounds_toArray, List.set_cons_zero, List.set_cons_succ]
    refine wpAnyH_ready (rs := [71]) (by as_aux_lemma => kernel_rfl) (by simp) ?_
    refine (AllReadyH.cons (o := mo71) rfl (fun K hK => ?_) AllReadyH.nil)
    unfold mo71; go_simp
    have hg := bel_alloc u14 (.cells #[.slice qo 2 co, .slice none 0 0, .slice (some ⟨u13.heap.size, 0, none⟩) 1 1, .slice qo 2 co] 29)
    have hN := heap_alloc_new u14 (.cells #[.slice qo 2 co, .slice none 0 0, .slice (some ⟨u13.heap.size, 0, none⟩) 1 1, .slice qo 2 co] 29)
    obtain ⟨u15, hW⟩ : ∃ wz, wz = u14.alloc (.cells #[.slice qo 2 co, .slice none 0 0, .slice (some ⟨u13.heap.size, 0, none⟩) 1 1, .slice qo 2 co] 29) := ⟨_, rfl⟩
    rw [← hW] at hg hN ⊢
    clear hW
    replace HP1 := Lib.hid (HP1.out.bel hg)
    replace HP2 := Lib.hid (HP2.out.bel hg)
    replace HP3 := Lib.hid (HP3.out.bel hg)
    replace HS := Lib.hid (HS.out.bel hg)
    replace HO := Lib.hid (HO.out.bel hg)
    replace HT121 := Lib.hid (HT121.out.bel hg)
    replace hd := hd.trans' hg
    clear hg
    have HLV := Lib.hid (LV.four hN (l := [x, z]) rfl HO.out (k := []) rfl (SliceAt.mkNil _) (q := [y]) rfl HT121.out (r := [x, z]) rfl HO.out)
    clear hN HT121
    first | refine hK.out _ _ ?_ (fun hHeld => ?_) | (go_wp2_with fail; refine hK.out _ _ ?_ (fun hHeld => ?_))
    · (try dsimp only); exact ⟨HP1.out.cells, HP2.out.cells, HP3.out.cells⟩
    clear hK K
    try simp only [Act.put, List.setIfInBounds_toArray, List.set_cons_zero, List.set_cons_succ]
    refine wpAnyH_ready (rs := [72]) (by as_aux_lemma => kernel_rfl) (by simp) ?_
    refine (AllReadyH.cons (o := mo72) rfl (fun K hK => ?_) AllReadyH.nil)
    unfold mo72; go_simp
    go_at_call 16
    refine (hM1.out _ _ _ HLV.out rfl).mono ?_
    rintro e u16 ⟨⟨q1, k1, HO1, rfl⟩, hg⟩
    clear HLV
    replace HP1 := Lib.hid (HP1.out.bel hg)
    replace HP2 := Lib.hid (HP2.out.bel hg)
    replace HP3 := Lib.hid (HP3.out.bel hg)
    replace HS := Lib.hid (HS.out.bel hg)
    replace HO := Lib.hid (HO.out.bel hg)
    replace hd := hd.trans' hg
    clear hg
    have HM1 := Lib.hid (al_own HO1.out)
    clear HO1
    first | refine hK.out _ _ ?_ (fun hHeld => ?_) | (go_wp2_with fail; refine hK.out _ _ ?_ (fun hHeld => ?_))
    · (try dsimp only); exact ⟨HP1.out.cells, HP2.out.cells, HP3.out.cells⟩
    clear hK K
    try simp only [Act.put, List.setIfInBounds_toArray, List.set_cons_zero, List.set_cons_succ]
    refine wpAnyH_ready (rs := [74]) (by as_aux_lemma => kernel_rfl) (by simp) ?_
    refine (AllReadyH.cons (o := mo74) rfl (fun K hK => ?_) AllReadyH.nil)
    unfold mo74; go_simp
    go_at_call 13
    refine (sameA_any q1 [x, y, z] 3 k1 rfl (some ⟨gs, 0, none⟩) 3 cs rfl _ HM1.out HS.out (by simp)).mono ?_
    rintro e u17 ⟨rfl, hg⟩
    clear HM1
    replace HP1 := Lib.hid (HP1.out.bel hg)
    replace HP2 := Lib.hid (HP2.out.bel hg)
    replace HP3 := Lib.hid (HP3.out.bel hg)
    replace HS := Lib.hid (HS.out.bel hg)
    replace HO := Lib.hid (HO.out.bel hg)
    replace hd := hd.trans' hg
    clear hg
    first | refine hK.out _ _ ?_ (fun hHeld => ?_) | (go_wp2_with fail; refine hK.out _ _ ?_ (fun hHeld => ?_))
    · (try dsimp only); exact ⟨HP1.out.cells, HP2.out.cells, HP3.out.cells⟩
    clear hK K
    try simp only [Act.put, List.setIfInBounds_toArray, List.set_cons_zero, List.set_cons_succ]
    refine tkmO (v := ?_) 75 mo75 rfl (by as_aux_lemma => kernel_rfl) (by as_aux_lemma => kernel_rfl) (by as_aux_lemma => kernel_rfl) (fun _ _ _ h => h) (by rfl) hHeld ?_ ?_
    rotate_left
    · (unfold mo75; intro w hSw; (try dsimp only at hSw); go_simp)
      all_goals with_reducible rfl
    try simp only [Act.put, List.setIfInBounds_toArray, List.set_cons_zero, List.set_cons_succ]
    refine tkmO (v := ?_) 76 mo76 rfl (by as_aux_lemma => kernel_rfl) (by as_aux_lemma => kernel_rfl) (by as_aux_lemma => kernel_rfl) (fun _ _ _ h => h) (by rfl) hHeld ?_ ?_
    rotate_left
    · (unfold mo76; intro w hSw; (try dsimp only at hSw); go_simp)
      all_goals with_reducible rfl
    try simp only [Act.put, List.setIfInBounds_toArray, List.set_cons_zero, List.set_cons_succ]
    refine wpAnyH_ready (rs := [77]) (by as_aux_lemma => kernel_rfl) (by simp) ?_
    refine (AllReadyH.cons (o := mo77) rfl (fun K hK => ?_) AllReadyH.nil)
    unfold mo77; go_simp
    go_at_call 16
    refine (hM2.out _).mono ?_
    rintro e u18 ⟨⟨q2, k2, HO2, rfl⟩, hg⟩
    replace HP1 := Lib.hid (HP1.out.bel hg)
    replace HP2 := Lib.hid (HP2.out.bel hg)
    replace HP3 := Lib.hid (HP3.out.bel hg)
    replace HS := Lib.hid (HS.out.bel hg)
    replace HO := Lib.hid (HO.out.bel hg)
    replace hd := hd.trans' hg
    clear hg
    first | refine hK.out _ _ ?_ (fun hHeld => ?_) | (go_wp2_with fail; refine hK.out _ _ ?_ (fun hHeld => ?_))
    · (try dsimp only); exact ⟨HP1.out.cells, HP2.out.cells, HP3.out.cells⟩
    clear hK K
    try simp only [Act.put, List.setIfInBounds_toArray, List.set_cons_zero, List.set_cons_succ]
    refine tkmO (v := ?_) 78 mo78 rfl (by as_aux_lemma => kernel_rfl) (by as_aux_lemma => kernel_rfl) (by as_aux_lemma => kernel_rfl) (fun _ _ _ h => h) (by rfl) hHeld ?_ ?_
    rotate_left
    · (unfold mo78; intro w hSw; (try dsimp only at hSw); go_simp)
      all_goals with_reducible rfl
    try simp only [Act.put, List.setIfInBounds_toArray, List.set_cons_zero, List.set_cons_succ]
    refine tkmO (v := ?_) 79 mo79 rfl (by as_aux_lemma => kernel_rfl) (by as_aux_lemma => kernel_rfl) (by as_aux_lemma => kernel_rfl) (fun _ _ _ h => h) (by rfl) hHeld ?_ ?_
    rotate_left
    · (unfold mo79; intro w hSw; (try dsimp only at hSw); go_simp)
      all_goals with_reducible rfl
    try simp only [Act.put, List.setIfInBounds_toArray, List.set_cons_zero, List.set_cons_succ]
    refine tkmO (v := ?_) 80 mo80 rfl (by as_aux_lemma => kernel_rfl) (by as_aux_lemma => kernel_rfl) (by as_aux_lemma => kernel_rfl) (fun _ _ _ h => h) (by rfl) hHeld ?_ ?_
    rotate_left
    · (unfold mo80; intro w hSw; (try dsimp only at hSw); go_simp)
      all_goals with_reducible rfl
    try simp only [Act.put, List.setIfInBounds_toArray, List.set_cons_zero, List.set_cons_succ]
    refine tkmO (v := ?_) 81 mo81 rfl (by as_aux_lemma => kernel_rfl) (by as_aux_lemma => kernel_rfl) (by as_aux_lemma => kernel_rfl) (fun _ _ _ h => h) (by rfl) hHeld ?_ ?_
    rotate_left
    · (unfold mo81; intro w hSw; (try dsimp only at hSw); go_simp)
      all_goals with_reducible rfl
    try simp only [Act.put, List.setIfInBounds_toArray, List.set_cons_zero, List.set_cons_succ]
    refine tkmO (v := ?_) 82 mo82 rfl (by as_aux_lemma => kernel_rfl) (by as_aux_lemma => kernel_rfl) (by as_aux_lemma => kernel_rfl) (fun _ _ _ h => h) (by rfl) hHeld ?_ ?_
    rotate_left
    · (unfold mo82; intro w hSw; (try dsimp only at hSw); go_simp)
      all_goals with_reducible rfl
    try simp only [Act.put, List.setIfInBounds_toArray, List.set_cons_zero, List.set_cons_succ]
    refine tkmO (v := ?_) 83 mo83 rfl (by as_aux_lemma => kernel_rfl) (by as_aux_lemma => kernel_rfl) (by as_aux_lemma => kernel_rfl) (fun _ _ _ h => h) (by rfl) hHeld ?_ ?_
    rotate_left
    · (unfold mo83; intro w hSw; (try dsimp only at hSw); go_simp)
      all_goals with_reducible rfl
    try simp only [Act.put, List.setIfInBounds_toArray, List.set_cons_zero, List.set_cons_succ]
    refine tkmO (v := ?_) 85 mo85 rfl (by as_aux_lemma => kernel_rfl) (by as_aux_lemma => kernel_rfl) (by as_aux_lemma => kernel_rfl) (fun _ _ _ h => h) (by rfl) hHeld ?_ ?_
    rotate_left
    · (unfold mo85; intro w hSw; (try dsimp only at hSw); go_simp)
      all_goals with_reducible rfl
    try simp only [Act.put, List.setIfInBounds_toArray, List.set_cons_zero, List.set_cons_succ]
    refine wpAnyH_ready (rs := [84, 86]) (by as_aux_lemma => kernel_rfl) (by simp) ?_
    refine (AllReadyH.cons (o := mo84) rfl (fun K hK => ?_) (AllReadyH.cons (o := mo86) rfl (fun K hK => ?_) AllReadyH.nil))
    · skip
      unfold mo84; go_simp
      go_at_call 17
      refine (hMi.out _ _ _ _ _ HS.out HO.out).mono ?_
      rintro e u19 ⟨⟨q3, k3, HO3, rfl⟩, hg⟩
      replace HP1 := Lib.hid (HP1.out.bel hg)
      replace HP2 := Lib.hid (HP2.out.bel hg)
      replace HP3 := Lib.hid (HP3.out.bel hg)
      replace HS := Lib.hid (HS.out.bel hg)
      replace HO := Lib.hid (HO.out.bel hg)
      replace hd := hd.trans' hg
      clear hg
      have HM3 := Lib.hid (al_own HO3.out)
      clear HO3
      first | refine hK.out _ _ ?_ (fun hHeld => ?_) | (go_wp2_with fail; refine hK.out _ _ ?_ (fun hHeld => ?_))
      · (try dsimp only); exact ⟨HP1.out.cells, HP2.out.cells, HP3.out.cells⟩
      clear hK K
      try simp only [Act.put, List.setIfInBounds_toArray, List.set_cons_zero, List.set_cons_succ]
      refine wpAnyH_ready (rs := [86]) (by as_aux_lemma => kernel_rfl) (by simp) ?_
      refine (AllReadyH.cons (o := mo86) rfl (fun K hK => ?_) AllReadyH.nil)
      unfold mo86; go_simp
      have hg := bel_alloc u19 (.cells #[(.string y.says), (.string y.pred), (.int .i64 y.n), (.bool y.t0.v), (.string y.t0.name), (.bool y.t1.v), (.string y.t1.name), (.bool y.t2.v), (.string y.t2.name), (.bool y.t3.v), (.string y.t3.name)] 27)
      have hN := al_lit u19 [y] #[(.string y.says), (.string y.pred), (.int .i64 y.n), (.bool y.t0.v), (.string y.t0.name), (.bool y.t1.v), (.string y.t1.name), (.bool y.t2.v), (.string y.t2.name), (.bool y.t3.v), (.string y.t3.name)] rfl _ rfl
      obtain ⟨u20, hW⟩ : ∃ wz, wz = u19.alloc (.cells #[(.string y.says), (.string y.pred), (.int .i64 y.n), (.bool y.t0.v), (.string y.t0.name), (.bool y.t1.v), (.string y.t1.name), (.bool y.t2.v), (.string y.t2.name), (.bool y.t3.v), (.string y.t3.name)] 27) := ⟨_, rfl⟩
      rw [← hW] at hg hN ⊢
      clear hW
      replace HP1 := Lib.hid (HP1.out.bel hg)
      replace HP2 := Lib.hid (HP2.out.bel hg)
      replace HP3 := Lib.hid (HP3.out.bel hg)
      replace HS := Lib.hid (HS.out.bel hg)
      replace HO := Lib.hid (HO.out.bel hg)
      replace HM3 := Lib.hid (HM3.out.bel hg)
      replace hd := hd.trans' hg
      clear hg
      have HT138 := Lib.hid hN
      clear hN
      first | refine hK.out _ _ ?_ (fun hHeld => ?_) | (go_wp2_with fail; refine hK.out _ _ ?_ (fun hHeld => ?_))
      · (try dsimp only); exact ⟨HP1.out.cells, HP2.out.cells, HP3.out.cells⟩
      clear hK K
      try simp only [Act.put, List.setIfInBounds_toArray, List.set_cons_zero, List.set_cons_succ]
      refine wpAnyH_ready (rs := [87]) (by as_aux_lemma => kernel_rfl) (by simp) ?_
      refine (AllReadyH.cons (o := mo87) rfl (fun K hK => ?_) AllReadyH.nil)
      unfold mo87; go_simp
      go_at_call 13
      refine (sameA_any q3 [y] 1 k3 rfl _ 1 1 rfl _ HM3.out HT138.out (by simp)).mono ?_
      rintro e u21 ⟨rfl, hg⟩
      replace HP1 := Lib.hid (HP1.out.bel hg)
      replace HP2 := Lib.hid (HP2.out.bel hg)
      replace HP3 := Lib.hid (HP3.out.bel hg)
      replace HS := Lib.hid (HS.out.bel hg)
      replace HO := Lib.hid (HO.out.bel hg)
      replace HM3 := Lib.hid (HM3.out.bel hg)
      replace HT138 := Lib.hid (HT138.out.bel hg)
      replace hd := hd.trans' hg
      clear hg
      first | refine hK.out _ _ ?_ (fun hHeld => ?_) | (go_wp2_with fail; refine hK.out _ _ ?_ (fun hHeld => ?_))
      · (try dsimp only); exact ⟨HP1.out.cells, HP2.out.cells, HP3.out.cells⟩
      clear hK K
      try simp only [Act.put, List.setIfInBounds_toArray, List.set_cons_zero, List.set_cons_succ]
      refine tkmO (v := ?_) 88 mo88 rfl (by as_aux_lemma => kernel_rfl) (by as_aux_lemma => kernel_rfl) (by as_aux_lemma => kernel_rfl) (fun _ _ _ h => h) (by rfl) hHeld ?_ ?_
      rotate_left
      · (unfold mo88; intro w hSw; (try dsimp only at hSw); go_simp)
        all_goals with_reducible rfl
      try simp only [Act.put, List.setIfInBounds_toArray, List.set_cons_zero, List.set_cons_succ]
      refine tkmO (v := ?_) 89 mo89 rfl (by as_aux_lemma => kernel_rfl) (by as_aux_lemma => kernel_rfl) (by as_aux_lemma => kernel_rfl) (fun _ _ _ h => h) (by rfl) hHeld ?_ ?_
      rotate_left
      · (unfold mo89; intro w hSw; (try dsimp only at hSw); go_simp)
        all_goals with_reducible rfl
      try simp only [Act.put, List.setIfInBounds_toArray, List.set_cons_zero]
      refine wpAnyH_done (by kernel_rfl) ?_ _
      go_wp2
      go_ret
      exact ⟨rfl, HB.out.trans' hd⟩
    · skip
      unfold mo86; go_simp
      have hg := bel_alloc u18 (.cells #[(.string y.says), (.string y.pred), (.int .i64 y.n), (.bool y.t0.v), (.string y.t0.name), (.bool y.t1.v), (.string y.t1.name), (.bool y.t2.v), (.string y.t2.name), (.bool y.t3.v), (.string y.t3.name)] 27)
      have hN := al_lit u18 [y] #[(.string y.says), (.string y.pred), (.int .i64 y.n), (.bool y.t0.v), (.string y.t0.name), (.bool y.t1.v), (.string y.t1.name), (.bool y.t2.v), (.string y.t2.name), (.bool y.t3.v), (.string y.t3.name)] rfl _ rfl
      obtain ⟨u22, hW⟩ : ∃ wz, wz = u18.alloc (.cells #[(.string y.says), (.string y.pred), (.int .i64 y.n), (.bool y.t0.v), (.string y.t0.name), (.bool y.t1.v), (.string y.t1.name), (.bool y.t2.v), (.string y.t2.name), (.bool y.t3.v), (.string y.t3.name)] 27) := ⟨_, rfl⟩
      rw [← hW] at hg hN ⊢
      clear hW
      replace HP1 := Lib.hid (HP1.out.bel hg)
      replace HP2 := Lib.hid (HP2.out.bel hg)
      replace HP3 := Lib.hid (HP3.out.bel hg)
      replace HS := Lib.hid (HS.out.bel hg)
      replace HO := Lib.hid (HO.out.bel hg)
      replace hd := hd.trans' hg
      clear hg
      have HT138 := Lib.hid hN
      clear hN
      first | refine hK.out _ _ ?_ (fun hHeld => ?_) | (go_wp2_with fail; refine hK.out _ _ ?_ (fun hHeld => ?_))
      · (try dsimp only); exact ⟨HP1.out.cells, HP2.out.cells, HP3.out.cells⟩
      clear hK K
      try simp only [Act.put, List.setIfInBounds_toArray, List.set_cons_zero, List.set_cons_succ]
      refine wpAnyH_ready (rs := [84]) (by as_aux_lemma => kernel_rfl) (by simp) ?_
      refine (AllReadyH.cons (o := mo84) rfl (fun K hK => ?_) AllReadyH.nil)
      unfold mo84; go_simp
      go_at_call 17
      refine (hMi.out _ _ _ _ _ HS.out HO.out).mono ?_
      rintro e u23 ⟨⟨q3, k3, HO3, rfl⟩, hg⟩
      replace HP1 := Lib.hid (HP1.out.bel hg)
      replace HP2 := Lib.hid (HP2.out.bel hg)
      replace HP3 := Lib.hid (HP3.out.bel hg)
      replace HS := Lib.hid (HS.out.bel hg)
      replace HO := Lib.hid (HO.out.bel hg)
      replace HT138 := Lib.hid (HT138.out.bel hg)
      replace hd := hd.trans' hg
      clear hg
      have HM3 := Lib.hid (al_own HO3.out)
      clear HO3
      first | refine hK.out _ _ ?_ (fun hHeld => ?_) | (go_wp2_with fail; refine hK.out _ _ ?_ (fun hHeld => ?_))
      · (try dsimp only); exact ⟨HP1.out.cells, HP2.out.cells, HP3.out.cells⟩
      clear hK K
      try simp only [Act.put, List.setIfInBounds_toArray, List.set_cons_zero, List.set_cons_succ]
      refine wpAnyH_ready (rs := [87]) (by as_aux_lemma => kernel_rfl) (by simp) ?_
      refine (AllReadyH.cons (o := mo87) rfl (fun K hK => ?_) AllReadyH.nil)
      unfold mo87; go_simp
      go_at_call 13
      refine (sameA_any q3 [y] 1 k3 rfl _ 1 1 rfl _ HM3.out HT138.out (by simp)).mono ?_
      rintro e u24 ⟨rfl, hg⟩
      replace HP1 := Lib.hid (HP1.out.bel hg)
      replace HP2 := Lib.hid (HP2.out.bel hg)
      replace HP3 := Lib.hid (HP3.out.bel hg)
      replace HS := Lib.hid (HS.out.bel hg)
      replace HO := Lib.hid (HO.out.bel hg)
      replace HT138 := Lib.hid (HT138.out.bel hg)
      replace HM3 := Lib.hid (HM3.out.bel hg)
      replace hd := hd.trans' hg
      clear hg
      first | refine hK.out _ _ ?_ (fun hHeld => ?_) | (go_wp2_with fail; refine hK.out _ _ ?_ (fun hHeld => ?_))
      · (try dsimp only); exact ⟨HP1.out.cells, HP2.out.cells, HP3.out.cells⟩
      clear hK K
      try simp only [Act.put, List.setIfInBounds_toArray, List.set_cons_zero, List.set_cons_succ]
      refine tkmO (v := ?_) 88 mo88 rfl (by as_aux_lemma => kernel_rfl) (by as_aux_lemma => kernel_rfl) (by as_aux_lemma => kernel_rfl) (fun _ _ _ h => h) (by rfl) hHeld ?_ ?_
      rotate_left
      · (unfold mo88; intro w hSw; (try dsimp only at hSw); go_simp)
        all_goals with_reducible rfl
      try simp only [Act.put, List.setIfInBounds_toArray, List.set_cons_zero, List.set_cons_succ]
      refine tkmO (v := ?_) 89 mo89 rfl (by as_aux_lemma => kernel_rfl) (by as_aux_lemma => kernel_rfl) (by as_aux_lemma => kernel_rfl) (fun _ _ _ h => h) (by rfl) hHeld ?_ ?_
      rotate_left
      · (unfold mo89; intro w hSw; (try dsimp only at hSw); go_simp)
        all_goals with_reducible rfl
      try simp only [Act.put, List.setIfInBounds_toArray, List.set_cons_zero]
      refine wpAnyH_done (by kernel_rfl) ?_ _
      go_wp2
      go_ret
      exact ⟨rfl, HB.out.trans' hd⟩
end Go.Proofs.Ytamghlneoglfnaa
