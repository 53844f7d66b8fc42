/-
  The law MatchNames. No condition.
-/
import Derived.Test.YtlbollmmomheoaaMaI
namespace Go.Proofs.Ytlbollmmomheoaa
open Go.RowKit

def bob1 : ByteArray := ⟨#[98, 111, 98]⟩
def open1 : ByteArray := ⟨#[111, 112, 101, 110]⟩
def atS (s r : ByteArray) (cs : List UInt8) : AtomD := storedD s r (cs.map byteD)
def nP : AtomD := atS says1 pr1 [89, 98, 88]
def nG : AtomD := atS says1 pr1 [99, 98, 100]
def nW : List BindD := [⟨⟨#[88]⟩, ⟨false, ⟨#[100]⟩⟩⟩, ⟨⟨#[89]⟩, ⟨false, ⟨#[99]⟩⟩⟩]
def nD : List BindD := [⟨⟨#[88]⟩, ⟨false, ⟨#[100]⟩⟩⟩]
def nE : List BindD := [⟨⟨#[88]⟩, ⟨false, ⟨#[101]⟩⟩⟩]
def nX : List BindD := [⟨⟨#[88]⟩, ⟨true, ⟨#[88]⟩⟩⟩]
theorem nm1 : extR [] nP nG = (nW, true) := extR_eq (by decide +kernel) (by decide +kernel)
theorem nm2 : extR nD nP nG = (nW, true) := extR_eq (by decide +kernel) (by decide +kernel)
theorem nm3 : extR nE nP nG = ([], false) := extR_eq (by decide +kernel) (by decide +kernel)
theorem nm4 : extR [] nP nP = ([], false) := extR_eq (by decide +kernel) (by decide +kernel)
theorem nm5 : extR [] nP (atS bob1 pr1 [99, 98, 100]) = ([], false) := extR_eq (by decide +kernel) (by decide +kernel)
theorem nm6 : extR nX nP nG = ([], false) := extR_eq (by decide +kernel) (by decide +kernel)
theorem nm7 : extR [] (atS says1 open1 []) (atS says1 open1 []) = ([], true) := extR_eq (by decide +kernel) (by decide +kernel)
theorem nm8 : underD nP nP = true := by decide +kernel
theorem nm9 : underD (atS says1 pr1 [90, 90]) (atS says1 pr1 [88, 89]) = true := by decide +kernel
theorem nm10 : underD (atS says1 pr1 [88, 89]) (atS says1 pr1 [90, 90]) = false := by decide +kernel
theorem nm11 : [nG, nP, nG].filter (matchB nP) = [nG, nG] := by
  have h1 : matchB nP nG = true := by decide +kernel
  have h2 : matchB nP nP = false := by decide +kernel
  simp [h1, h2]
theorem kA3 (s r : ByteArray) (c d f : UInt8) (w : World) : Calls Try.prog 32 #[.string s, .string r, .slice (some ⟨w.heap.size, 0, none⟩) 3 3] (w.alloc (.cells #[.string ⟨#[c]⟩, .string ⟨#[d]⟩, .string ⟨#[f]⟩] 9)) fun e w' => (∃ q, RowKit.Hid (q = atS s r [c, d, f]) ∧ e = .returned (.agg #[.string q.says, .string q.pred, .int .i64 q.n, .bool q.t0.v, .string q.t0.name, .bool q.t1.v, .string q.t1.name, .bool q.t2.v, .string q.t2.name, .bool q.t3.v, .string q.t3.name])) ∧ Bel w w' := by
  refine (kA_any s r (some ⟨w.heap.size, 0, none⟩) [c, d, f] 3 _ (listAt_lit w 9 #[.string ⟨#[c]⟩, .string ⟨#[d]⟩, .string ⟨#[f]⟩]) (by simp)).mono ?_
  rintro e w' ⟨h, hg⟩
  exact ⟨h, (bel_alloc _ _).trans' hg⟩
theorem kA0 (s r : ByteArray) (w : World) : Calls Try.prog 32 #[.string s, .string r, .slice none 0 0] w fun e w' => (∃ q, RowKit.Hid (q = atS s r []) ∧ e = .returned (.agg #[.string q.says, .string q.pred, .int .i64 q.n, .bool q.t0.v, .string q.t0.name, .bool q.t1.v, .string q.t1.name, .bool q.t2.v, .string q.t2.name, .bool q.t3.v, .string q.t3.name])) ∧ Bel w w' :=
  kA_any s r none [] 0 w ⟨rfl, .inl rfl⟩ (by simp)
theorem ext_take (A : Option Addr) (l : List BindD) (n ca : Nat) (hn : l.length = n) (p g : AtomD) (w : World) (hL : BL w A ca l) (hl : l.length ≤ 90000) {P G : AtomD} (hp : RowKit.Hid (p = P)) (hg : RowKit.Hid (g = G)) {m : List BindD} {is : Bool} (h : extR l P G = (m, is)) :
    Calls Try.prog 34 #[.slice A n ca, .agg #[.string p.says, .string p.pred, .int .i64 p.n, .bool p.t0.v, .string p.t0.name, .bool p.t1.v, .string p.t1.name, .bool p.t2.v, .string p.t2.name, .bool p.t3.v, .string p.t3.name], .agg #[.string g.says, .string g.pred, .int .i64 g.n, .bool g.t0.v, .string g.t0.name, .bool g.t1.v, .string g.t1.name, .bool g.t2.v, .string g.t2.name, .bool g.t3.v, .string g.t3.name]] w fun e w' => (∃ q c out, RowKit.Hid (out = m) ∧ RowKit.Hid (BL w' q c out) ∧ e = .returned (.tuple #[.slice q out.length c, .bool is])) ∧ Bel w w' := by
  obtain rfl := hp.out
  obtain rfl := hg.out
  refine (Extend_any A l n ca hn p g w hL hl).mono ?_
  rintro e w' ⟨⟨q, c, out, i, HE, HO, rfl⟩, hb⟩
  obtain ⟨h1, rfl⟩ := Prod.mk.inj (HE.out.trans h)
  exact ⟨⟨q, c, out, Lib.hid h1, Lib.hid (OwnL.slice EB HO.out), rfl⟩, hb⟩
theorem match_take (p g : AtomD) (w : World) {P G : AtomD} (hp : RowKit.Hid (p = P)) (hg : RowKit.Hid (g = G)) {m : List BindD} {is : Bool} (h : extR [] P G = (m, is)) :
    Calls Try.prog 33 #[.agg #[.string p.says, .string p.pred, .int .i64 p.n, .bool p.t0.v, .string p.t0.name, .bool p.t1.v, .string p.t1.name, .bool p.t2.v, .string p.t2.name, .bool p.t3.v, .string p.t3.name], .agg #[.string g.says, .string g.pred, .int .i64 g.n, .bool g.t0.v, .string g.t0.name, .bool g.t1.v, .string g.t1.name, .bool g.t2.v, .string g.t2.name, .bool g.t3.v, .string g.t3.name]] w fun e w' => (∃ q c out, RowKit.Hid (out = m) ∧ RowKit.Hid (BL w' q c out) ∧ e = .returned (.tuple #[.slice q out.length c, .bool is])) ∧ Bel w w' := by
  obtain rfl := hp.out
  obtain rfl := hg.out
  refine (Match_any p g w).mono ?_
  rintro e w' ⟨⟨q, c, out, i, HE, HO, rfl⟩, hb⟩
  obtain ⟨h1, rfl⟩ := Prod.mk.inj (HE.out.trans h)
  exact ⟨⟨q, c, out, Lib.hid h1, Lib.hid (OwnL.slice EB HO.out), rfl⟩, hb⟩
theorem under_take (p g : AtomD) (w : World) {P G : AtomD} (hp : RowKit.Hid (p = P)) (hg : RowKit.Hid (g = G)) {is : Bool} (h : underD P G = is) :
    Calls Try.prog 35 #[.agg #[.string p.says, .string p.pred, .int .i64 p.n, .bool p.t0.v, .string p.t0.name, .bool p.t1.v, .string p.t1.name, .bool p.t2.v, .string p.t2.name, .bool p.t3.v, .string p.t3.name], .agg #[.string g.says, .string g.pred, .int .i64 g.n, .bool g.t0.v, .string g.t0.name, .bool g.t1.v, .string g.t1.name, .bool g.t2.v, .string g.t2.name, .bool g.t3.v, .string g.t3.name]] w fun e w' => e = .returned (.bool is) ∧ Bel w w' := by
  obtain rfl := hp.out
  obtain rfl := hg.out
  have := Under_any p g w
  rwa [h] at this
theorem cutL {T G : Prop} (hm : T → G) (hk : T) : G := hm hk
theorem tkm {P : Program} {ops : Array Oper} {Q : Exit → Act → World → Prop} {md : Region.Mode} {S : World → Prop} (i : Nat) (oi : Oper) {v : Value} {fuel : Nat} {listed : Array Bool} {a : Act} {w : World} (hi : ops[i]? = some oi)
    (hs : Region.noSelect ops = true) (hf : Region.free md ops listed i = true) (hr : (Region.ready md ops listed).contains i = true)
    (hQ : ∀ c a w, Q (.panic c) (a.put oi.dst v) w → Q (.panic c) a w) (hw : Region.wanted oi (yielded ops a.tmps) = true) (hS : S w)
    (hy : ∀ w, S w → (execOp a.eval oi).run P w = .ok (.value v) w)
    (h : wpAnyH P md ops Q S fuel (listed.setIfInBounds i true) (a.put oi.dst v) w) : wpAnyH P md ops Q S (fuel + 1) listed a w :=
  wpAnyH_take hi hs hf hr hQ (Or.inl ⟨hw, hy⟩) hS h
abbrev mo0 : Oper := { dst := some 81, op := Go.Op.move (Go.Operand.tmp 4), type := 4, pos := "law.go:35", after := #[], guard := none }
abbrev mo1 : Oper := { dst := some 82, op := Go.Op.move (Go.Operand.tmp 81), type := 4, pos := "law.go:35", after := #[{ on := 0, ground := Go.Ground.data }], guard := none }
abbrev mo2 : Oper := { dst := some 83, op := Go.Op.move (Go.Operand.tmp 3), type := 23, pos := "law.go:35", after := #[{ on := 1, ground := Go.Ground.guard }], guard := some (1, true) }
abbrev mo3 : Oper := { dst := some 84, op := Go.Op.move (Go.Operand.tmp 17), type := 23, pos := "law.go:35", after := #[{ on := 1, ground := Go.Ground.guard }], guard := some (1, true) }
abbrev mo4 : Oper := { dst := some 85, op := Go.Op.call { callee := Go.Callee.value (Go.Operand.func 17), args := #[Go.Operand.tmp 83, Go.Operand.tmp 84], argTypes := #[23, 23] }, type := 4, pos := "law.go:35", after := #[{ on := 2, ground := Go.Ground.data }, { on := 3, ground := Go.Ground.data }, { on := 1, ground := Go.Ground.chain }, { on := 1, ground := Go.Ground.guard }], guard := some (1, true) }
abbrev mo5 : Oper := { dst := some 86, op := Go.Op.pick (Go.Operand.tmp 82) (Go.Operand.tmp 85) (Go.Operand.const (Go.Value.bool false)), type := 4, pos := "law.go:35", after := #[{ on := 1, ground := Go.Ground.data }, { on := 4, ground := Go.Ground.data }], guard := none }
abbrev mo6 : Oper := { dst := some 87, op := Go.Op.move (Go.Operand.tmp 86), type := 4, pos := "law.go:35", after := #[{ on := 5, ground := Go.Ground.data }, { on := 4, ground := Go.Ground.chain }], guard := none }
abbrev mo7 : Oper := { dst := some 88, op := Go.Op.move (Go.Operand.tmp 6), type := 4, pos := "law.go:35", after := #[{ on := 6, ground := Go.Ground.guard }], guard := some (6, true) }
abbrev mo8 : Oper := { dst := some 89, op := Go.Op.pick (Go.Operand.tmp 87) (Go.Operand.tmp 88) (Go.Operand.const (Go.Value.bool false)), type := 4, pos := "law.go:35", after := #[{ on := 6, ground := Go.Ground.data }, { on := 7, ground := Go.Ground.data }], guard := none }
abbrev mo9 : Oper := { dst := some 90, op := Go.Op.move (Go.Operand.tmp 89), type := 4, pos := "law.go:35", after := #[{ on := 8, ground := Go.Ground.data }, { on := 6, ground := Go.Ground.chain }], guard := none }
abbrev mo10 : Oper := { dst := some 91, op := Go.Op.move (Go.Operand.tmp 5), type := 23, pos := "law.go:35", after := #[{ on := 9, ground := Go.Ground.guard }], guard := some (9, true) }
abbrev mo11 : Oper := { dst := some 92, op := Go.Op.move (Go.Operand.tmp 17), type := 23, pos := "law.go:35", after := #[{ on := 9, ground := Go.Ground.guard }], guard := some (9, true) }
abbrev mo12 : Oper := { dst := some 93, op := Go.Op.call { callee := Go.Callee.value (Go.Operand.func 17), args := #[Go.Operand.tmp 91, Go.Operand.tmp 92], argTypes := #[23, 23] }, type := 4, pos := "law.go:35", after := #[{ on := 10, ground := Go.Ground.data }, { on := 11, ground := Go.Ground.data }, { on := 9, ground := Go.Ground.chain }, { on := 9, ground := Go.Ground.guard }], guard := some (9, true) }
abbrev mo13 : Oper := { dst := some 94, op := Go.Op.pick (Go.Operand.tmp 90) (Go.Operand.tmp 93) (Go.Operand.const (Go.Value.bool false)), type := 4, pos := "law.go:35", after := #[{ on := 9, ground := Go.Ground.data }, { on := 12, ground := Go.Ground.data }], guard := none }
abbrev mo14 : Oper := { dst := some 95, op := Go.Op.move (Go.Operand.tmp 94), type := 4, pos := "law.go:35", after := #[{ on := 13, ground := Go.Ground.data }, { on := 12, ground := Go.Ground.chain }], guard := none }
abbrev mo15 : Oper := { dst := some 96, op := Go.Op.move (Go.Operand.tmp 8), type := 4, pos := "law.go:35", after := #[{ on := 14, ground := Go.Ground.guard }], guard := some (14, true) }
abbrev mo16 : Oper := { dst := some 97, op := Go.Op.unOp Go.UnOp.not 4 (Go.Operand.tmp 96), type := 4, pos := "law.go:35", after := #[{ on := 15, ground := Go.Ground.data }, { on := 14, ground := Go.Ground.guard }], guard := some (14, true) }
abbrev mo17 : Oper := { dst := some 98, op := Go.Op.pick (Go.Operand.tmp 95) (Go.Operand.tmp 97) (Go.Operand.const (Go.Value.bool false)), type := 4, pos := "law.go:35", after := #[{ on := 14, ground := Go.Ground.data }, { on := 16, ground := Go.Ground.data }], guard := none }
abbrev mo18 : Oper := { dst := some 99, op := Go.Op.move (Go.Operand.tmp 98), type := 4, pos := "law.go:35", after := #[{ on := 17, ground := Go.Ground.data }, { on := 14, ground := Go.Ground.chain }], guard := none }
abbrev mo19 : Oper := { dst := some 100, op := Go.Op.move (Go.Operand.tmp 10), type := 4, pos := "law.go:35", after := #[{ on := 18, ground := Go.Ground.guard }], guard := some (18, true) }
abbrev mo20 : Oper := { dst := some 101, op := Go.Op.unOp Go.UnOp.not 4 (Go.Operand.tmp 100), type := 4, pos := "law.go:35", after := #[{ on := 19, ground := Go.Ground.data }, { on := 18, ground := Go.Ground.guard }], guard := some (18, true) }
abbrev mo21 : Oper := { dst := some 102, op := Go.Op.pick (Go.Operand.tmp 99) (Go.Operand.tmp 101) (Go.Operand.const (Go.Value.bool false)), type := 4, pos := "law.go:35", after := #[{ on := 18, ground := Go.Ground.data }, { on := 20, ground := Go.Ground.data }], guard := none }
abbrev mo22 : Oper := { dst := some 103, op := Go.Op.move (Go.Operand.tmp 102), type := 4, pos := "law.go:35", after := #[{ on := 21, ground := Go.Ground.data }, { on := 18, ground := Go.Ground.chain }], guard := none }
abbrev mo23 : Oper := { dst := some 104, op := Go.Op.move (Go.Operand.tmp 12), type := 4, pos := "law.go:35", after := #[{ on := 22, ground := Go.Ground.guard }], guard := some (22, true) }
abbrev mo24 : Oper := { dst := some 105, op := Go.Op.unOp Go.UnOp.not 4 (Go.Operand.tmp 104), type := 4, pos := "law.go:35", after := #[{ on := 23, ground := Go.Ground.data }, { on := 22, ground := Go.Ground.guard }], guard := some (22, true) }
abbrev mo25 : Oper := { dst := some 106, op := Go.Op.pick (Go.Operand.tmp 103) (Go.Operand.tmp 105) (Go.Operand.const (Go.Value.bool false)), type := 4, pos := "law.go:35", after := #[{ on := 22, ground := Go.Ground.data }, { on := 24, ground := Go.Ground.data }], guard := none }
abbrev mo26 : Oper := { dst := some 107, op := Go.Op.move (Go.Operand.tmp 106), type := 4, pos := "law.go:35", after := #[{ on := 25, ground := Go.Ground.data }, { on := 22, ground := Go.Ground.chain }], guard := none }
abbrev mo27 : Oper := { dst := some 108, op := Go.Op.move (Go.Operand.tmp 14), type := 4, pos := "law.go:35", after := #[{ on := 26, ground := Go.Ground.guard }], guard := some (26, true) }
abbrev mo28 : Oper := { dst := some 109, op := Go.Op.unOp Go.UnOp.not 4 (Go.Operand.tmp 108), type := 4, pos := "law.go:35", after := #[{ on := 27, ground := Go.Ground.data }, { on := 26, ground := Go.Ground.guard }], guard := some (26, true) }
abbrev mo29 : Oper := { dst := some 110, op := Go.Op.pick (Go.Operand.tmp 107) (Go.Operand.tmp 109) (Go.Operand.const (Go.Value.bool false)), type := 4, pos := "law.go:35", after := #[{ on := 26, ground := Go.Ground.data }, { on := 28, ground := Go.Ground.data }], guard := none }
abbrev mo30 : Oper := { dst := some 111, op := Go.Op.move (Go.Operand.tmp 110), type := 4, pos := "law.go:35", after := #[{ on := 29, ground := Go.Ground.data }, { on := 26, ground := Go.Ground.chain }], guard := none }
abbrev mo31 : Oper := { dst := some 112, op := Go.Op.move (Go.Operand.tmp 16), type := 4, pos := "law.go:35", after := #[{ on := 30, ground := Go.Ground.guard }], guard := some (30, true) }
abbrev mo32 : Oper := { dst := some 113, op := Go.Op.pick (Go.Operand.tmp 111) (Go.Operand.tmp 112) (Go.Operand.const (Go.Value.bool false)), type := 4, pos := "law.go:35", after := #[{ on := 30, ground := Go.Ground.data }, { on := 31, ground := Go.Ground.data }], guard := none }
abbrev mo33 : Oper := { dst := some 114, op := Go.Op.move (Go.Operand.tmp 113), type := 4, pos := "law.go:35", after := #[{ on := 32, ground := Go.Ground.data }, { on := 30, ground := Go.Ground.chain }], guard := none }
abbrev mo34 : Oper := { dst := some 115, op := Go.Op.move (Go.Operand.tmp 15), type := 23, pos := "law.go:35", after := #[{ on := 33, ground := Go.Ground.guard }], guard := some (33, true) }
abbrev mo35 : Oper := { dst := some 116, op := Go.Op.call { callee := Go.Callee.builtin Go.Builtin.len, args := #[Go.Operand.tmp 115], argTypes := #[23] }, type := 3, pos := "law.go:35", after := #[{ on := 34, ground := Go.Ground.data }, { on := 33, ground := Go.Ground.guard }], guard := some (33, true) }
abbrev mo36 : Oper := { dst := some 117, op := Go.Op.binOp Go.BinOp.eql 3 (Go.Operand.tmp 116) (Go.Operand.const (Go.Value.int Go.IntKind.i64 0)) 3, type := 4, pos := "law.go:35", after := #[{ on := 35, ground := Go.Ground.data }, { on := 33, ground := Go.Ground.guard }], guard := some (33, true) }
abbrev mo37 : Oper := { dst := some 118, op := Go.Op.pick (Go.Operand.tmp 114) (Go.Operand.tmp 117) (Go.Operand.const (Go.Value.bool false)), type := 4, pos := "law.go:35", after := #[{ on := 33, ground := Go.Ground.data }, { on := 36, ground := Go.Ground.data }], guard := none }
abbrev mo38 : Oper := { dst := some 119, op := Go.Op.move (Go.Operand.tmp 118), type := 4, pos := "law.go:35", after := #[{ on := 37, ground := Go.Ground.data }, { on := 33, ground := Go.Ground.chain }], guard := none }
abbrev mo39 : Oper := { dst := some 120, op := Go.Op.load 43 (Go.Operand.tmp 1), type := 43, pos := "law.go:35", after := #[{ on := 38, ground := Go.Ground.guard }], guard := some (38, true) }
abbrev mo40 : Oper := { dst := some 121, op := Go.Op.load 43 (Go.Operand.tmp 1), type := 43, pos := "law.go:35", after := #[{ on := 38, ground := Go.Ground.guard }], guard := some (38, true) }
abbrev mo41 : Oper := { dst := some 122, op := Go.Op.call { callee := Go.Callee.value (Go.Operand.func 35), args := #[Go.Operand.tmp 120, Go.Operand.tmp 121], argTypes := #[43, 43] }, type := 4, pos := "law.go:35", after := #[{ on := 39, ground := Go.Ground.data }, { on := 40, ground := Go.Ground.data }, { on := 38, ground := Go.Ground.chain }, { on := 38, ground := Go.Ground.guard }], guard := some (38, true) }
abbrev mo42 : Oper := { dst := some 123, op := Go.Op.pick (Go.Operand.tmp 119) (Go.Operand.tmp 122) (Go.Operand.const (Go.Value.bool false)), type := 4, pos := "law.go:35", after := #[{ on := 38, ground := Go.Ground.data }, { on := 41, ground := Go.Ground.data }], guard := none }
abbrev mo43 : Oper := { dst := some 124, op := Go.Op.move (Go.Operand.tmp 123), type := 4, pos := "law.go:35", after := #[{ on := 42, ground := Go.Ground.data }, { on := 41, ground := Go.Ground.chain }], guard := none }
abbrev mo44 : Oper := { dst := some 125, op := Go.Op.buildSlice 39 2 #[(0, Go.Operand.const (Go.Value.string { data := #[90] })), (1, Go.Operand.const (Go.Value.string { data := #[90] }))], type := 39, pos := "law.go:35", after := #[{ on := 43, ground := Go.Ground.guard }], guard := some (43, true) }
abbrev mo45 : Oper := { dst := some 126, op := Go.Op.call { callee := Go.Callee.value (Go.Operand.func 32), args := #[Go.Operand.const (Go.Value.string { data := #[97, 108, 105, 99, 101] }), Go.Operand.const (Go.Value.string { data := #[112] }), Go.Operand.tmp 125], argTypes := #[9, 9, 39] }, type := 43, pos := "law.go:35", after := #[{ on := 44, ground := Go.Ground.data }, { on := 43, ground := Go.Ground.chain }, { on := 43, ground := Go.Ground.guard }], guard := some (43, true) }
abbrev mo46 : Oper := { dst := some 127, op := Go.Op.buildSlice 39 2 #[(0, Go.Operand.const (Go.Value.string { data := #[88] })), (1, Go.Operand.const (Go.Value.string { data := #[89] }))], type := 39, pos := "law.go:35", after := #[{ on := 43, ground := Go.Ground.guard }], guard := some (43, true) }
abbrev mo47 : Oper := { dst := some 128, op := Go.Op.call { callee := Go.Callee.value (Go.Operand.func 32), args := #[Go.Operand.const (Go.Value.string { data := #[97, 108, 105, 99, 101] }), Go.Operand.const (Go.Value.string { data := #[112] }), Go.Operand.tmp 127], argTypes := #[9, 9, 39] }, type := 43, pos := "law.go:35", after := #[{ on := 46, ground := Go.Ground.data }, { on := 45, ground := Go.Ground.chain }, { on := 43, ground := Go.Ground.guard }], guard := some (43, true) }
abbrev mo48 : Oper := { dst := some 129, op := Go.Op.call { callee := Go.Callee.value (Go.Operand.func 35), args := #[Go.Operand.tmp 126, Go.Operand.tmp 128], argTypes := #[43, 43] }, type := 4, pos := "law.go:35", after := #[{ on := 45, ground := Go.Ground.data }, { on := 47, ground := Go.Ground.data }, { on := 47, ground := Go.Ground.chain }, { on := 43, ground := Go.Ground.guard }], guard := some (43, true) }
abbrev mo49 : Oper := { dst := some 130, op := Go.Op.pick (Go.Operand.tmp 124) (Go.Operand.tmp 129) (Go.Operand.const (Go.Value.bool false)), type := 4, pos := "law.go:35", after := #[{ on := 43, ground := Go.Ground.data }, { on := 48, ground := Go.Ground.data }], guard := none }
abbrev mo50 : Oper := { dst := some 131, op := Go.Op.move (Go.Operand.tmp 130), type := 4, pos := "law.go:35", after := #[{ on := 49, ground := Go.Ground.data }, { on := 48, ground := Go.Ground.chain }], guard := none }
abbrev mo51 : Oper := { dst := some 132, op := Go.Op.buildSlice 39 2 #[(0, Go.Operand.const (Go.Value.string { data := #[88] })), (1, Go.Operand.const (Go.Value.string { data := #[89] }))], type := 39, pos := "law.go:35", after := #[{ on := 50, ground := Go.Ground.guard }], guard := some (50, true) }
abbrev mo52 : Oper := { dst := some 133, op := Go.Op.call { callee := Go.Callee.value (Go.Operand.func 32), args := #[Go.Operand.const (Go.Value.string { data := #[97, 108, 105, 99, 101] }), Go.Operand.const (Go.Value.string { data := #[112] }), Go.Operand.tmp 132], argTypes := #[9, 9, 39] }, type := 43, pos := "law.go:35", after := #[{ on := 51, ground := Go.Ground.data }, { on := 50, ground := Go.Ground.chain }, { on := 50, ground := Go.Ground.guard }], guard := some (50, true) }
abbrev mo53 : Oper := { dst := some 134, op := Go.Op.buildSlice 39 2 #[(0, Go.Operand.const (Go.Value.string { data := #[90] })), (1, Go.Operand.const (Go.Value.string { data := #[90] }))], type := 39, pos := "law.go:35", after := #[{ on := 50, ground := Go.Ground.guard }], guard := some (50, true) }
abbrev mo54 : Oper := { dst := some 135, op := Go.Op.call { callee := Go.Callee.value (Go.Operand.func 32), args := #[Go.Operand.const (Go.Value.string { data := #[97, 108, 105, 99, 101] }), Go.Operand.const (Go.Value.string { data := #[112] }), Go.Operand.tmp 134], argTypes := #[9, 9, 39] }, type := 43, pos := "law.go:35", after := #[{ on := 53, ground := Go.Ground.data }, { on := 52, ground := Go.Ground.chain }, { on := 50, ground := Go.Ground.guard }], guard := some (50, true) }
abbrev mo55 : Oper := { dst := some 136, op := Go.Op.call { callee := Go.Callee.value (Go.Operand.func 35), args := #[Go.Operand.tmp 133, Go.Operand.tmp 135], argTypes := #[43, 43] }, type := 4, pos := "law.go:35", after := #[{ on := 52, ground := Go.Ground.data }, { on := 54, ground := Go.Ground.data }, { on := 54, ground := Go.Ground.chain }, { on := 50, ground := Go.Ground.guard }], guard := some (50, true) }
abbrev mo56 : Oper := { dst := some 137, op := Go.Op.unOp Go.UnOp.not 4 (Go.Operand.tmp 136), type := 4, pos := "law.go:35", after := #[{ on := 55, ground := Go.Ground.data }, { on := 50, ground := Go.Ground.guard }], guard := some (50, true) }
abbrev mo57 : Oper := { dst := some 138, op := Go.Op.pick (Go.Operand.tmp 131) (Go.Operand.tmp 137) (Go.Operand.const (Go.Value.bool false)), type := 4, pos := "law.go:35", after := #[{ on := 50, ground := Go.Ground.data }, { on := 56, ground := Go.Ground.data }], guard := none }
abbrev mo58 : Oper := { dst := some 139, op := Go.Op.move (Go.Operand.tmp 138), type := 4, pos := "law.go:35", after := #[{ on := 57, ground := Go.Ground.data }, { on := 55, ground := Go.Ground.chain }], guard := none }
abbrev mo59 : Oper := { dst := some 140, op := Go.Op.load 43 (Go.Operand.tmp 1), type := 43, pos := "law.go:35", after := #[{ on := 58, ground := Go.Ground.guard }], guard := some (58, true) }
abbrev mo60 : Oper := { dst := some 141, op := Go.Op.load 43 (Go.Operand.tmp 2), type := 43, pos := "law.go:35", after := #[{ on := 58, ground := Go.Ground.guard }], guard := some (58, true) }
abbrev mo61 : Oper := { dst := some 142, op := Go.Op.load 43 (Go.Operand.tmp 1), type := 43, pos := "law.go:35", after := #[{ on := 58, ground := Go.Ground.guard }], guard := some (58, true) }
abbrev mo62 : Oper := { dst := some 143, op := Go.Op.load 43 (Go.Operand.tmp 2), type := 43, pos := "law.go:35", after := #[{ on := 58, ground := Go.Ground.guard }], guard := some (58, true) }
abbrev mo63 : Oper := { dst := some 144, op := Go.Op.buildSlice 60 3 #[(0, Go.Operand.tmp 141), (1, Go.Operand.tmp 142), (2, Go.Operand.tmp 143)], type := 60, pos := "law.go:35", after := #[{ on := 60, ground := Go.Ground.data }, { on := 61, ground := Go.Ground.data }, { on := 62, ground := Go.Ground.data }, { on := 58, ground := Go.Ground.guard }], guard := some (58, true) }
abbrev mo64 : Oper := { dst := some 145, op := Go.Op.call { callee := Go.Callee.value (Go.Operand.func 37), args := #[Go.Operand.tmp 140, Go.Operand.tmp 144], argTypes := #[43, 60] }, type := 60, pos := "law.go:35", after := #[{ on := 59, ground := Go.Ground.data }, { on := 63, ground := Go.Ground.data }, { on := 58, ground := Go.Ground.chain }, { on := 58, ground := Go.Ground.guard }], guard := some (58, true) }
abbrev mo65 : Oper := { dst := some 146, op := Go.Op.load 43 (Go.Operand.tmp 2), type := 43, pos := "law.go:35", after := #[{ on := 58, ground := Go.Ground.guard }], guard := some (58, true) }
abbrev mo66 : Oper := { dst := some 147, op := Go.Op.load 43 (Go.Operand.tmp 2), type := 43, pos := "law.go:35", after := #[{ on := 58, ground := Go.Ground.guard }], guard := some (58, true) }
abbrev mo67 : Oper := { dst := some 148, op := Go.Op.buildSlice 60 2 #[(0, Go.Operand.tmp 146), (1, Go.Operand.tmp 147)], type := 60, pos := "law.go:35", after := #[{ on := 65, ground := Go.Ground.data }, { on := 66, ground := Go.Ground.data }, { on := 58, ground := Go.Ground.guard }], guard := some (58, true) }
abbrev mo68 : Oper := { dst := some 149, op := Go.Op.call { callee := Go.Callee.value (Go.Operand.func 36), args := #[Go.Operand.tmp 145, Go.Operand.tmp 148], argTypes := #[60, 60] }, type := 4, pos := "law.go:35", after := #[{ on := 64, ground := Go.Ground.data }, { on := 67, ground := Go.Ground.data }, { on := 64, ground := Go.Ground.chain }, { on := 58, ground := Go.Ground.guard }], guard := some (58, true) }
abbrev mo69 : Oper := { dst := some 150, op := Go.Op.pick (Go.Operand.tmp 139) (Go.Operand.tmp 149) (Go.Operand.const (Go.Value.bool false)), type := 4, pos := "law.go:35", after := #[{ on := 58, ground := Go.Ground.data }, { on := 68, ground := Go.Ground.data }], guard := none }
abbrev mo70 : Oper := { dst := some 0, op := Go.Op.assign (Go.Operand.tmp 150), type := 4, pos := "law.go:35", after := ([{ on := 69, ground := Go.Ground.data }, { on := 68, ground := Go.Ground.chain }, { on := 0, ground := Go.Ground.phase }, { on := 1, ground := Go.Ground.phase }, { on := 2, ground := Go.Ground.phase }, { on := 3, ground := Go.Ground.phase }, { on := 4, ground := Go.Ground.phase }, { on := 5, ground := Go.Ground.phase }, { on := 6, ground := Go.Ground.phase }, { on := 7, ground := Go.Ground.phase }, { on := 8, ground := Go.Ground.phase }, { on := 9, ground := Go.Ground.phase }, { on := 10, ground := Go.Ground.phase }, { on := 11, ground := Go.Ground.phase }, { on := 12, ground := Go.Ground.phase }, { on := 13, ground := Go.Ground.phase }, { on := 14, ground := Go.Ground.phase }, { on := 15, ground := Go.Ground.phase }, { on := 16, ground := Go.Ground.phase }, { on := 17, ground := Go.Ground.phase }, { on := 18, ground := Go.Ground.phase }, { on := 19, ground := Go.Ground.phase }, { on := 20, ground := Go.Ground.phase }, { on := 21, ground := Go.Ground.phase }, { on := 22, ground := Go.Ground.phase }, { on := 23, ground := Go.Ground.phase }, { on := 24, ground := Go.Ground.phase }, { on := 25, ground := Go.Ground.phase }, { on := 26, ground := Go.Ground.phase }, { on := 27, ground := Go.Ground.phase }, { on := 28, ground := Go.Ground.phase }, { on := 29, ground := Go.Ground.phase }, { on := 30, ground := Go.Ground.phase }, { on := 31, ground := Go.Ground.phase }, { on := 32, ground := Go.Ground.phase }, { on := 33, ground := Go.Ground.phase }, { on := 34, ground := Go.Ground.phase }, { on := 35, ground := Go.Ground.phase }, { on := 36, ground := Go.Ground.phase }, { on := 37, ground := Go.Ground.phase }, { on := 38, ground := Go.Ground.phase }, { on := 39, ground := Go.Ground.phase }, { on := 40, ground := Go.Ground.phase }, { on := 41, ground := Go.Ground.phase }, { on := 42, ground := Go.Ground.phase }, { on := 43, ground := Go.Ground.phase }, { on := 44, ground := Go.Ground.phase }, { on := 45, ground := Go.Ground.phase }, { on := 46, ground := Go.Ground.phase }, { on := 47, ground := Go.Ground.phase }, { on := 48, ground := Go.Ground.phase }, { on := 49, ground := Go.Ground.phase }, { on := 50, ground := Go.Ground.phase }, { on := 51, ground := Go.Ground.phase }, { on := 52, ground := Go.Ground.phase }, { on := 53, ground := Go.Ground.phase }, { on := 54, ground := Go.Ground.phase }, { on := 55, ground := Go.Ground.phase }, { on := 56, ground := Go.Ground.phase }, { on := 57, ground := Go.Ground.phase }, { on := 58, ground := Go.Ground.phase }, { on := 59, ground := Go.Ground.phase }, { on := 60, ground := Go.Ground.phase }, { on := 61, ground := Go.Ground.phase }, { on := 62, ground := Go.Ground.phase }, { on := 63, ground := Go.Ground.phase }, { on := 64, ground := Go.Ground.phase }, { on := 65, ground := Go.Ground.phase }, { on := 66, ground := Go.Ground.phase }, { on := 67, ground := Go.Ground.phase }, { on := 68, ground := Go.Ground.phase }, { on := 69, ground := Go.Ground.phase }]).toArray, guard := none }
theorem listAt_bel {w w' : World} {A : Option Addr} {n : Nat} {xs : List Value} (h : ListAt w A n xs) (hg : Bel w w') : ListAt w' A n xs := by
  obtain ⟨h1, h2⟩ := h
  refine ⟨h1, ?_⟩
  rcases h2 with h2 | ⟨b, o, rfl, hb, hc⟩
  · exact .inl h2
  · exact .inr ⟨b, o, rfl, Nat.lt_of_lt_of_le hb hg.size, fun j u hu => cell_bel (hc j u hu) hg⟩
theorem kAg (c d : UInt8) (b : Nat) (w : World) (h : ListAt w (some ⟨b, 0, none⟩) 2 [.string ⟨#[c]⟩, .string ⟨#[d]⟩]) : Calls Try.prog 32 #[.string says1, .string pr1, .slice (some ⟨b, 0, none⟩) 2 2] w fun e w' => (∃ q, RowKit.Hid (q = atS says1 pr1 [c, d]) ∧ e = .returned (.agg #[.string q.says, .string q.pred, .int .i64 q.n, .bool q.t0.v, .string q.t0.name, .bool q.t1.v, .string q.t1.name, .bool q.t2.v, .string q.t2.name, .bool q.t3.v, .string q.t3.name])) ∧ Bel w w' :=
  kA_any says1 pr1 (some ⟨b, 0, none⟩) [c, d] 2 w h (by simp)
theorem all_take (a2 a3 : AtomD) (h : RowKit.Hid ([a3, a2, a3].filter (matchB a2) = [a3, a3])) (b : Nat) (w : World) (hA : AL w (some ⟨b, 0, none⟩) 3 [a3, a2, a3]) :
    Calls Try.prog 37 #[.agg #[.string a2.says, .string a2.pred, .int .i64 a2.n, .bool a2.t0.v, .string a2.t0.name, .bool a2.t1.v, .string a2.t1.name, .bool a2.t2.v, .string a2.t2.name, .bool a2.t3.v, .string a2.t3.name], .slice (some ⟨b, 0, none⟩) 3 3] w fun e w' => (∃ q c, RowKit.Hid (AL w' q c [a3, a3]) ∧ e = .returned (.slice q 2 c)) ∧ Bel w w' := by
  refine (All_any a2 (some ⟨b, 0, none⟩) [a3, a2, a3] 3 3 rfl w hA (by simp)).mono ?_
  rintro e w' ⟨⟨q, c, out, HE, HO, rfl⟩, hg⟩
  obtain rfl : out = [a3, a3] := HE.out.trans h.out
  exact ⟨⟨q, c, Lib.hid (OwnL.slice EA HO.out), rfl⟩, hg⟩
set_option maxRecDepth 20000 in
set_option maxHeartbeats 64000000 in
theorem lawMatchNames (w : World) : Calls Try.prog 5 #[] w fun e w' => e = .returned (.bool true) ∧ Bel w w' := by
  have hb : Bel w w := Below.refl _ _
  go_enter Try.func5, Try.ntmps5
  go_wp2_with (fail)
  refine (lives5_any _).mono ?_
  rintro e w1 ⟨rfl, hg⟩
  have hb := hb.trans' hg
  clear hg
  go_wp2_with (fail)
  refine (kA3 _ _ 89 98 88 _).mono ?_
  rintro e w2 ⟨⟨a2, HA2, rfl⟩, hg⟩
  have hb := hb.trans' hg
  clear hg
  go_wp2_with (fail)
  refine (kA3 _ _ 99 98 100 _).mono ?_
  rintro e w3 ⟨⟨a3, HA3, rfl⟩, hg⟩
  have hb := hb.trans' hg
  clear hg
  have hX := (AtomAt.new w3 a2).bel (bel_alloc _ (.cells #[.string a3.says, .string a3.pred, .int .i64 a3.n, .bool a3.t0.v, .string a3.t0.name, .bool a3.t1.v, .string a3.t1.name, .bool a3.t2.v, .string a3.t2.name, .bool a3.t3.v, .string a3.t3.name] 43))
  have hY := AtomAt.new (w3.alloc (.cells #[.string a2.says, .string a2.pred, .int .i64 a2.n, .bool a2.t0.v, .string a2.t0.name, .bool a2.t1.v, .string a2.t1.name, .bool a2.t2.v, .string a2.t2.name, .bool a2.t3.v, .string a2.t3.name] 43)) a3
  rw [show (w3.alloc (.cells #[.string a2.says, .string a2.pred, .int .i64 a2.n, .bool a2.t0.v, .string a2.t0.name, .bool a2.t1.v, .string a2.t1.name, .bool a2.t2.v, .string a2.t2.name, .bool a2.t3.v, .string a2.t3.name] 43)).heap.size = w3.heap.size + 1 by simp] at hY
  have hb := hb.trans' ((bel_alloc w3 (.cells #[.string a2.says, .string a2.pred, .int .i64 a2.n, .bool a2.t0.v, .string a2.t0.name, .bool a2.t1.v, .string a2.t1.name, .bool a2.t2.v, .string a2.t2.name, .bool a2.t3.v, .string a2.t3.name] 43)).trans' (bel_alloc _ (.cells #[.string a3.says, .string a3.pred, .int .i64 a3.n, .bool a3.t0.v, .string a3.t0.name, .bool a3.t1.v, .string a3.t1.name, .bool a3.t2.v, .string a3.t2.name, .bool a3.t3.v, .string a3.t3.name] 43)))
  go_wp2_with (fail)
  refine (match_take a2 a3 _ HA2 HA3 nm1).mono ?_
  rintro e w4 ⟨⟨q4, k4, o4, E4, HL4, rfl⟩, hg⟩
  have hX := hX.bel hg
  have hY := hY.bel hg
  have hb := hb.trans' hg
  clear hg
  obtain ⟨c0, c1, c2, c3, c4, c5, c6, c7, c8, c9, c10⟩ := hX.cells
  obtain ⟨d0, d1, d2, d3, d4, d5, d6, d7, d8, d9, d10⟩ := hY.cells
  have hd : Bel w4 w4.drew := bel_drew' (Below.refl _ _)
  go_wp2
  have hX := hX.drew
  have hY := hY.drew
  go_region_held3 (fun w' => (w'.cell? ⟨w3.heap.size, 0, none⟩ = some (.string a2.says) ∧ w'.cell? ⟨w3.heap.size, 1, none⟩ = some (.string a2.pred) ∧ w'.cell? ⟨w3.heap.size, 2, none⟩ = some (.int .i64 a2.n) ∧ w'.cell? ⟨w3.heap.size, 3, none⟩ = some (.bool a2.t0.v) ∧ w'.cell? ⟨w3.heap.size, 4, none⟩ = some (.string a2.t0.name) ∧ w'.cell? ⟨w3.heap.size, 5, none⟩ = some (.bool a2.t1.v) ∧ w'.cell? ⟨w3.heap.size, 6, none⟩ = some (.string a2.t1.name) ∧ w'.cell? ⟨w3.heap.size, 7, none⟩ = some (.bool a2.t2.v) ∧ w'.cell? ⟨w3.heap.size, 8, none⟩ = some (.string a2.t2.name) ∧ w'.cell? ⟨w3.heap.size, 9, none⟩ = some (.bool a2.t3.v) ∧ w'.cell? ⟨w3.heap.size, 10, none⟩ = some (.string a2.t3.name)) ∧ (w'.cell? ⟨w3.heap.size + 1, 0, none⟩ = some (.string a3.says) ∧ w'.cell? ⟨w3.heap.size + 1, 1, none⟩ = some (.string a3.pred) ∧ w'.cell? ⟨w3.heap.size + 1, 2, none⟩ = some (.int .i64 a3.n) ∧ w'.cell? ⟨w3.heap.size + 1, 3, none⟩ = some (.bool a3.t0.v) ∧ w'.cell? ⟨w3.heap.size + 1, 4, none⟩ = some (.string a3.t0.name) ∧ w'.cell? ⟨w3.heap.size + 1, 5, none⟩ = some (.bool a3.t1.v) ∧ w'.cell? ⟨w3.heap.size + 1, 6, none⟩ = some (.string a3.t1.name) ∧ w'.cell? ⟨w3.heap.size + 1, 7, none⟩ = some (.bool a3.t2.v) ∧ w'.cell? ⟨w3.heap.size + 1, 8, none⟩ = some (.string a3.t2.name) ∧ w'.cell? ⟨w3.heap.size + 1, 9, none⟩ = some (.bool a3.t3.v) ∧ w'.cell? ⟨w3.heap.size + 1, 10, none⟩ = some (.string a3.t3.name))) (first | exact ⟨hX.cells, hY.cells⟩ | go_keep | trivial)
    (first | (go_at_call 13; refine (c_any _ _).mono ?_; rintro e w5a ⟨rfl, hg⟩; have hX := hX.bel hg; have hY := hY.bel hg; have hd := hd.trans' hg; obtain ⟨x0, x1, x2, x3, x4, x5, x6, x7, x8, x9, x10⟩ := hX.cells; obtain ⟨y0, y1, y2, y3, y4, y5, y6, y7, y8, y9, y10⟩ := hY.cells; clear hg) | (go_at_call 34; refine (ext_take (some ⟨w5a.heap.size, 0, none⟩) nD 1 1 rfl a2 a3 (w5a.alloc (.cells #[.string ⟨#[88]⟩, .bool false, .string ⟨#[100]⟩] 32)) (SliceAt.lit EB w5a 32 nD #[.string ⟨#[88]⟩, .bool false, .string ⟨#[100]⟩] rfl) (by decide) HA2 HA3 nm2).mono ?_; rintro e w5 ⟨⟨q5, k5, o5, E5, HL5, rfl⟩, hg⟩; have hg := (bel_alloc w5a (.cells #[.string ⟨#[88]⟩, .bool false, .string ⟨#[100]⟩] 32)).trans' hg; have hX := hX.bel hg; have hY := hY.bel hg; have hd := hd.trans' hg; obtain ⟨x0, x1, x2, x3, x4, x5, x6, x7, x8, x9, x10⟩ := hX.cells; obtain ⟨y0, y1, y2, y3, y4, y5, y6, y7, y8, y9, y10⟩ := hY.cells; clear hg))
  have HL4 := Lib.hid (HL4.out.bel hd)
  have hb := hb.trans' hd
  clear hd
  clear x0 y0 x1 y1 x2 y2 x3 y3 x4 y4 x5 y5 x6 y6 x7 y7 x8 y8 x9 y9 x10 y10
  clear c0 c1 c2 c3 c4 c5 c6 c7 c8 c9 c10
  clear d0 d1 d2 d3 d4 d5 d6 d7 d8 d9 d10
  obtain ⟨c0, c1, c2, c3, c4, c5, c6, c7, c8, c9, c10⟩ := hX.cells
  obtain ⟨d0, d1, d2, d3, d4, d5, d6, d7, d8, d9, d10⟩ := hY.cells
  have hd : Bel w5 w5.drew := bel_drew' (Below.refl _ _)
  go_wp2
  have hX := hX.drew
  have hY := hY.drew
  go_region_held3 (fun w' => (w'.cell? ⟨w3.heap.size, 0, none⟩ = some (.string a2.says) ∧ w'.cell? ⟨w3.heap.size, 1, none⟩ = some (.string a2.pred) ∧ w'.cell? ⟨w3.heap.size, 2, none⟩ = some (.int .i64 a2.n) ∧ w'.cell? ⟨w3.heap.size, 3, none⟩ = some (.bool a2.t0.v) ∧ w'.cell? ⟨w3.heap.size, 4, none⟩ = some (.string a2.t0.name) ∧ w'.cell? ⟨w3.heap.size, 5, none⟩ = some (.bool a2.t1.v) ∧ w'.cell? ⟨w3.heap.size, 6, none⟩ = some (.string a2.t1.name) ∧ w'.cell? ⟨w3.heap.size, 7, none⟩ = some (.bool a2.t2.v) ∧ w'.cell? ⟨w3.heap.size, 8, none⟩ = some (.string a2.t2.name) ∧ w'.cell? ⟨w3.heap.size, 9, none⟩ = some (.bool a2.t3.v) ∧ w'.cell? ⟨w3.heap.size, 10, none⟩ = some (.string a2.t3.name)) ∧ (w'.cell? ⟨w3.heap.size + 1, 0, none⟩ = some (.string a3.says) ∧ w'.cell? ⟨w3.heap.size + 1, 1, none⟩ = some (.string a3.pred) ∧ w'.cell? ⟨w3.heap.size + 1, 2, none⟩ = some (.int .i64 a3.n) ∧ w'.cell? ⟨w3.heap.size + 1, 3, none⟩ = some (.bool a3.t0.v) ∧ w'.cell? ⟨w3.heap.size + 1, 4, none⟩ = some (.string a3.t0.name) ∧ w'.cell? ⟨w3.heap.size + 1, 5, none⟩ = some (.bool a3.t1.v) ∧ w'.cell? ⟨w3.heap.size + 1, 6, none⟩ = some (.string a3.t1.name) ∧ w'.cell? ⟨w3.heap.size + 1, 7, none⟩ = some (.bool a3.t2.v) ∧ w'.cell? ⟨w3.heap.size + 1, 8, none⟩ = some (.string a3.t2.name) ∧ w'.cell? ⟨w3.heap.size + 1, 9, none⟩ = some (.bool a3.t3.v) ∧ w'.cell? ⟨w3.heap.size + 1, 10, none⟩ = some (.string a3.t3.name))) (first | exact ⟨hX.cells, hY.cells⟩ | go_keep | trivial)
    (first | (go_at_call 13; refine (c_any _ _).mono ?_; rintro e w6a ⟨rfl, hg⟩; have hX := hX.bel hg; have hY := hY.bel hg; have hd := hd.trans' hg; obtain ⟨x0, x1, x2, x3, x4, x5, x6, x7, x8, x9, x10⟩ := hX.cells; obtain ⟨y0, y1, y2, y3, y4, y5, y6, y7, y8, y9, y10⟩ := hY.cells; clear hg) | (go_at_call 34; refine (ext_take (some ⟨w6a.heap.size, 0, none⟩) nE 1 1 rfl a2 a3 (w6a.alloc (.cells #[.string ⟨#[88]⟩, .bool false, .string ⟨#[101]⟩] 32)) (SliceAt.lit EB w6a 32 nE #[.string ⟨#[88]⟩, .bool false, .string ⟨#[101]⟩] rfl) (by decide) HA2 HA3 nm3).mono ?_; rintro e w6 ⟨⟨q6, k6, o6, E6, HL6, rfl⟩, hg⟩; have hg := (bel_alloc w6a (.cells #[.string ⟨#[88]⟩, .bool false, .string ⟨#[101]⟩] 32)).trans' hg; have hX := hX.bel hg; have hY := hY.bel hg; have hd := hd.trans' hg; obtain ⟨x0, x1, x2, x3, x4, x5, x6, x7, x8, x9, x10⟩ := hX.cells; obtain ⟨y0, y1, y2, y3, y4, y5, y6, y7, y8, y9, y10⟩ := hY.cells; clear hg))
  have HL4 := Lib.hid (HL4.out.bel hd)
  have HL5 := Lib.hid (HL5.out.bel hd)
  have hb := hb.trans' hd
  clear hd
  clear x0 y0 x1 y1 x2 y2 x3 y3 x4 y4 x5 y5 x6 y6 x7 y7 x8 y8 x9 y9 x10 y10
  clear c0 c1 c2 c3 c4 c5 c6 c7 c8 c9 c10
  clear d0 d1 d2 d3 d4 d5 d6 d7 d8 d9 d10
  obtain ⟨c0, c1, c2, c3, c4, c5, c6, c7, c8, c9, c10⟩ := hX.cells
  go_wp2_with (fail)
  refine (match_take a2 a2 _ HA2 HA2 nm4).mono ?_
  rintro e w7 ⟨⟨q7, k7, o7, E7, HL7, rfl⟩, hg⟩
  have hX := hX.bel hg
  have hY := hY.bel hg
  have HL4 := Lib.hid (HL4.out.bel hg)
  have HL5 := Lib.hid (HL5.out.bel hg)
  have hb := hb.trans' hg
  clear hg
  clear c0 c1 c2 c3 c4 c5 c6 c7 c8 c9 c10
  obtain ⟨c0, c1, c2, c3, c4, c5, c6, c7, c8, c9, c10⟩ := hX.cells
  obtain ⟨d0, d1, d2, d3, d4, d5, d6, d7, d8, d9, d10⟩ := hY.cells
  have hd : Bel w7 w7.drew := bel_drew' (Below.refl _ _)
  go_wp2
  have hX := hX.drew
  have hY := hY.drew
  go_region_held3 (fun w' => (w'.cell? ⟨w3.heap.size, 0, none⟩ = some (.string a2.says) ∧ w'.cell? ⟨w3.heap.size, 1, none⟩ = some (.string a2.pred) ∧ w'.cell? ⟨w3.heap.size, 2, none⟩ = some (.int .i64 a2.n) ∧ w'.cell? ⟨w3.heap.size, 3, none⟩ = some (.bool a2.t0.v) ∧ w'.cell? ⟨w3.heap.size, 4, none⟩ = some (.string a2.t0.name) ∧ w'.cell? ⟨w3.heap.size, 5, none⟩ = some (.bool a2.t1.v) ∧ w'.cell? ⟨w3.heap.size, 6, none⟩ = some (.string a2.t1.name) ∧ w'.cell? ⟨w3.heap.size, 7, none⟩ = some (.bool a2.t2.v) ∧ w'.cell? ⟨w3.heap.size, 8, none⟩ = some (.string a2.t2.name) ∧ w'.cell? ⟨w3.heap.size, 9, none⟩ = some (.bool a2.t3.v) ∧ w'.cell? ⟨w3.heap.size, 10, none⟩ = some (.string a2.t3.name)) ∧ (w'.cell? ⟨w3.heap.size + 1, 0, none⟩ = some (.string a3.says) ∧ w'.cell? ⟨w3.heap.size + 1, 1, none⟩ = some (.string a3.pred) ∧ w'.cell? ⟨w3.heap.size + 1, 2, none⟩ = some (.int .i64 a3.n) ∧ w'.cell? ⟨w3.heap.size + 1, 3, none⟩ = some (.bool a3.t0.v) ∧ w'.cell? ⟨w3.heap.size + 1, 4, none⟩ = some (.string a3.t0.name) ∧ w'.cell? ⟨w3.heap.size + 1, 5, none⟩ = some (.bool a3.t1.v) ∧ w'.cell? ⟨w3.heap.size + 1, 6, none⟩ = some (.string a3.t1.name) ∧ w'.cell? ⟨w3.heap.size + 1, 7, none⟩ = some (.bool a3.t2.v) ∧ w'.cell? ⟨w3.heap.size + 1, 8, none⟩ = some (.string a3.t2.name) ∧ w'.cell? ⟨w3.heap.size + 1, 9, none⟩ = some (.bool a3.t3.v) ∧ w'.cell? ⟨w3.heap.size + 1, 10, none⟩ = some (.string a3.t3.name))) (first | exact ⟨hX.cells, hY.cells⟩ | go_keep | trivial)
    (first | (go_at_call 32; refine (kA3 _ _ 99 98 100 w7.drew).mono ?_; rintro e w8a ⟨⟨a8, HA8, rfl⟩, hg⟩; have hX := hX.bel hg; have hY := hY.bel hg; have hd := hd.trans' hg; obtain ⟨x0, x1, x2, x3, x4, x5, x6, x7, x8, x9, x10⟩ := hX.cells; obtain ⟨y0, y1, y2, y3, y4, y5, y6, y7, y8, y9, y10⟩ := hY.cells; clear hg) | (go_at_call 33; refine (match_take a2 a8 _ HA2 HA8 nm5).mono ?_; rintro e w8 ⟨⟨q8, k8, o8, E8, HL8, rfl⟩, hg⟩; have hX := hX.bel hg; have hY := hY.bel hg; have hd := hd.trans' hg; obtain ⟨x0, x1, x2, x3, x4, x5, x6, x7, x8, x9, x10⟩ := hX.cells; obtain ⟨y0, y1, y2, y3, y4, y5, y6, y7, y8, y9, y10⟩ := hY.cells; clear hg))
  have HL4 := Lib.hid (HL4.out.bel hd)
  have HL5 := Lib.hid (HL5.out.bel hd)
  have hb := hb.trans' hd
  clear hd
  clear x0 y0 x1 y1 x2 y2 x3 y3 x4 y4 x5 y5 x6 y6 x7 y7 x8 y8 x9 y9 x10 y10
  clear c0 c1 c2 c3 c4 c5 c6 c7 c8 c9 c10
  clear d0 d1 d2 d3 d4 d5 d6 d7 d8 d9 d10
  obtain ⟨c0, c1, c2, c3, c4, c5, c6, c7, c8, c9, c10⟩ := hX.cells
  obtain ⟨d0, d1, d2, d3, d4, d5, d6, d7, d8, d9, d10⟩ := hY.cells
  have hd : Bel w8 w8.drew := bel_drew' (Below.refl _ _)
  go_wp2
  have hX := hX.drew
  have hY := hY.drew
  go_region_held3 (fun w' => (w'.cell? ⟨w3.heap.size, 0, none⟩ = some (.string a2.says) ∧ w'.cell? ⟨w3.heap.size, 1, none⟩ = some (.string a2.pred) ∧ w'.cell? ⟨w3.heap.size, 2, none⟩ = some (.int .i64 a2.n) ∧ w'.cell? ⟨w3.heap.size, 3, none⟩ = some (.bool a2.t0.v) ∧ w'.cell? ⟨w3.heap.size, 4, none⟩ = some (.string a2.t0.name) ∧ w'.cell? ⟨w3.heap.size, 5, none⟩ = some (.bool a2.t1.v) ∧ w'.cell? ⟨w3.heap.size, 6, none⟩ = some (.string a2.t1.name) ∧ w'.cell? ⟨w3.heap.size, 7, none⟩ = some (.bool a2.t2.v) ∧ w'.cell? ⟨w3.heap.size, 8, none⟩ = some (.string a2.t2.name) ∧ w'.cell? ⟨w3.heap.size, 9, none⟩ = some (.bool a2.t3.v) ∧ w'.cell? ⟨w3.heap.size, 10, none⟩ = some (.string a2.t3.name)) ∧ (w'.cell? ⟨w3.heap.size + 1, 0, none⟩ = some (.string a3.says) ∧ w'.cell? ⟨w3.heap.size + 1, 1, none⟩ = some (.string a3.pred) ∧ w'.cell? ⟨w3.heap.size + 1, 2, none⟩ = some (.int .i64 a3.n) ∧ w'.cell? ⟨w3.heap.size + 1, 3, none⟩ = some (.bool a3.t0.v) ∧ w'.cell? ⟨w3.heap.size + 1, 4, none⟩ = some (.string a3.t0.name) ∧ w'.cell? ⟨w3.heap.size + 1, 5, none⟩ = some (.bool a3.t1.v) ∧ w'.cell? ⟨w3.heap.size + 1, 6, none⟩ = some (.string a3.t1.name) ∧ w'.cell? ⟨w3.heap.size + 1, 7, none⟩ = some (.bool a3.t2.v) ∧ w'.cell? ⟨w3.heap.size + 1, 8, none⟩ = some (.string a3.t2.name) ∧ w'.cell? ⟨w3.heap.size + 1, 9, none⟩ = some (.bool a3.t3.v) ∧ w'.cell? ⟨w3.heap.size + 1, 10, none⟩ = some (.string a3.t3.name))) (first | exact ⟨hX.cells, hY.cells⟩ | go_keep | trivial)
    (first | (go_at_call 14; refine (v_any _ _).mono ?_; rintro e w9a ⟨rfl, hg⟩; have hX := hX.bel hg; have hY := hY.bel hg; have hd := hd.trans' hg; obtain ⟨x0, x1, x2, x3, x4, x5, x6, x7, x8, x9, x10⟩ := hX.cells; obtain ⟨y0, y1, y2, y3, y4, y5, y6, y7, y8, y9, y10⟩ := hY.cells; clear hg) | (go_at_call 34; refine (ext_take (some ⟨w9a.heap.size, 0, none⟩) nX 1 1 rfl a2 a3 (w9a.alloc (.cells #[.string ⟨#[88]⟩, .bool true, .string ⟨#[88]⟩] 32)) (SliceAt.lit EB w9a 32 nX #[.string ⟨#[88]⟩, .bool true, .string ⟨#[88]⟩] rfl) (by decide) HA2 HA3 nm6).mono ?_; rintro e w9 ⟨⟨q9, k9, o9, E9, HL9, rfl⟩, hg⟩; have hg := (bel_alloc w9a (.cells #[.string ⟨#[88]⟩, .bool true, .string ⟨#[88]⟩] 32)).trans' hg; have hX := hX.bel hg; have hY := hY.bel hg; have hd := hd.trans' hg; obtain ⟨x0, x1, x2, x3, x4, x5, x6, x7, x8, x9, x10⟩ := hX.cells; obtain ⟨y0, y1, y2, y3, y4, y5, y6, y7, y8, y9, y10⟩ := hY.cells; clear hg))
  have HL4 := Lib.hid (HL4.out.bel hd)
  have HL5 := Lib.hid (HL5.out.bel hd)
  have hb := hb.trans' hd
  clear hd
  clear x0 y0 x1 y1 x2 y2 x3 y3 x4 y4 x5 y5 x6 y6 x7 y7 x8 y8 x9 y9 x10 y10
  clear c0 c1 c2 c3 c4 c5 c6 c7 c8 c9 c10
  clear d0 d1 d2 d3 d4 d5 d6 d7 d8 d9 d10
  go_wp2_with (fail)
  refine (kA0 _ _ _).mono ?_
  rintro e w10 ⟨⟨a10, HA10, rfl⟩, hg⟩
  have hX := hX.bel hg
  have hY := hY.bel hg
  have HL4 := Lib.hid (HL4.out.bel hg)
  have HL5 := Lib.hid (HL5.out.bel hg)
  have hb := hb.trans' hg
  clear hg
  go_wp2_with (fail)
  refine (kA0 _ _ _).mono ?_
  rintro e w11 ⟨⟨a11, HA11, rfl⟩, hg⟩
  have hX := hX.bel hg
  have hY := hY.bel hg
  have HL4 := Lib.hid (HL4.out.bel hg)
  have HL5 := Lib.hid (HL5.out.bel hg)
  have hb := hb.trans' hg
  clear hg
  go_wp2_with (fail)
  refine (match_take a10 a11 _ HA10 HA11 nm7).mono ?_
  rintro e w12 ⟨⟨q12, k12, o12, E12, HL12, rfl⟩, hg⟩
  have hX := hX.bel hg
  have hY := hY.bel hg
  have HL4 := Lib.hid (HL4.out.bel hg)
  have HL5 := Lib.hid (HL5.out.bel hg)
  have hb := hb.trans' hg
  clear hg
  go_wp2_with (fail)
  refine (c_any _ _).mono ?_
  rintro e w13 ⟨rfl, hg⟩
  have hX := hX.bel hg
  have hY := hY.bel hg
  have HL4 := Lib.hid (HL4.out.bel hg)
  have HL5 := Lib.hid (HL5.out.bel hg)
  have hb := hb.trans' hg
  clear hg
  go_wp2_with (fail)
  refine (c_any _ _).mono ?_
  rintro e w14 ⟨rfl, hg⟩
  have hX := hX.bel hg
  have hY := hY.bel hg
  have HL4 := Lib.hid (HL4.out.bel hg)
  have HL5 := Lib.hid (HL5.out.bel hg)
  have hb := hb.trans' hg
  clear hg
  have H4 : RowKit.Hid (o4.length = 2) := Lib.hid (by rw [E4.out]; rfl)
  have H5 : RowKit.Hid (o5.length = 2) := Lib.hid (by rw [E5.out]; rfl)
  obtain rfl : o12 = [] := E12.out
  have HW := Lib.hid (SliceAt.lit EB w14 32 nW #[.string ⟨#[88]⟩, .bool false, .string ⟨#[100]⟩, .string ⟨#[89]⟩, .bool false, .string ⟨#[99]⟩] rfl)
  have gW := bel_alloc w14 (.cells #[.string ⟨#[88]⟩, .bool false, .string ⟨#[100]⟩, .string ⟨#[89]⟩, .bool false, .string ⟨#[99]⟩] 32)
  have hX := hX.bel gW
  have hY := hY.bel gW
  have HL4 := Lib.hid (HL4.out.bel gW)
  have HL5 := Lib.hid (HL5.out.bel gW)
  have hb := hb.trans' gW
  clear gW
  obtain ⟨wS, hwS⟩ : ∃ x, x = w14.alloc (.cells #[.string ⟨#[88]⟩, .bool false, .string ⟨#[100]⟩, .string ⟨#[89]⟩, .bool false, .string ⟨#[99]⟩] 32) := ⟨_, rfl⟩
  rw [← hwS] at hX hY HL4 HL5 HW hb
  have HFT : RowKit.Hid ([a3, a2, a3].filter (matchB a2) = [a3, a3]) := Lib.hid (by rw [HA2.out, HA3.out]; exact nm11)
  have hwD : Bel wS wS.drew := bel_drew' (Below.refl _ _)
  go_wp2
  rw [← hwS]
  simp only [List.append]
  have hX := hX.drew
  have hY := hY.drew
  have HL4 := Lib.hid (HL4.out.bel hwD)
  have HL5 := Lib.hid (HL5.out.bel hwD)
  have HW := Lib.hid (HW.out.bel hwD)
  focus
    refine wp_region_held_drew (S := fun w' => (w'.cell? ⟨w3.heap.size, 0, none⟩ = some (.string a2.says) ∧ w'.cell? ⟨w3.heap.size, 1, none⟩ = some (.string a2.pred) ∧ w'.cell? ⟨w3.heap.size, 2, none⟩ = some (.int .i64 a2.n) ∧ w'.cell? ⟨w3.heap.size, 3, none⟩ = some (.bool a2.t0.v) ∧ w'.cell? ⟨w3.heap.size, 4, none⟩ = some (.string a2.t0.name) ∧ w'.cell? ⟨w3.heap.size, 5, none⟩ = some (.bool a2.t1.v) ∧ w'.cell? ⟨w3.heap.size, 6, none⟩ = some (.string a2.t1.name) ∧ w'.cell? ⟨w3.heap.size, 7, none⟩ = some (.bool a2.t2.v) ∧ w'.cell? ⟨w3.heap.size, 8, none⟩ = some (.string a2.t2.name) ∧ w'.cell? ⟨w3.heap.size, 9, none⟩ = some (.bool a2.t3.v) ∧ w'.cell? ⟨w3.heap.size, 10, none⟩ = some (.string a2.t3.name)) ∧ (w'.cell? ⟨w3.heap.size + 1, 0, none⟩ = some (.string a3.says) ∧ w'.cell? ⟨w3.heap.size + 1, 1, none⟩ = some (.string a3.pred) ∧ w'.cell? ⟨w3.heap.size + 1, 2, none⟩ = some (.int .i64 a3.n) ∧ w'.cell? ⟨w3.heap.size + 1, 3, none⟩ = some (.bool a3.t0.v) ∧ w'.cell? ⟨w3.heap.size + 1, 4, none⟩ = some (.string a3.t0.name) ∧ w'.cell? ⟨w3.heap.size + 1, 5, none⟩ = some (.bool a3.t1.v) ∧ w'.cell? ⟨w3.heap.size + 1, 6, none⟩ = some (.string a3.t1.name) ∧ w'.cell? ⟨w3.heap.size + 1, 7, none⟩ = some (.bool a3.t2.v) ∧ w'.cell? ⟨w3.heap.size + 1, 8, none⟩ = some (.string a3.t2.name) ∧ w'.cell? ⟨w3.heap.size + 1, 9, none⟩ = some (.bool a3.t3.v) ∧ w'.cell? ⟨w3.heap.size + 1, 10, none⟩ = some (.string a3.t3.name))) (by kernel_rfl) (⟨hX.cells, hY.cells⟩) (fun hHeld => ?_)
    obtain ⟨wD, hD⟩ : ∃ x, x = wS.drew := ⟨_, rfl⟩
    rw [← hD] at hX hY HL4 HL5 HW hwD hHeld ⊢
    have hd := hwD
    have hb := Lib.hid hb
    clear hwD hD hwS
    refine tkm (v := ?_) 0 mo0 rfl (by as_aux_lemma => kernel_rfl) (by as_aux_lemma => kernel_rfl) (by as_aux_lemma => kernel_rfl) (fun _ _ _ h => h) (by rfl) hHeld ?_ ?_
    rotate_left
    · (unfold mo0; intro w hSw; (try dsimp only at hSw); go_simp)
      all_goals with_reducible rfl
    try simp only [mo0, Act.put, List.setIfInBounds_toArray, List.set_cons_zero, List.set_cons_succ]
    refine tkm (v := ?_) 1 mo1 rfl (by as_aux_lemma => kernel_rfl) (by as_aux_lemma => kernel_rfl) (by as_aux_lemma => kernel_rfl) (fun _ _ _ h => h) (by rfl) hHeld ?_ ?_
    rotate_left
    · (unfold mo1; intro w hSw; (try dsimp only at hSw); go_simp)
      all_goals with_reducible rfl
    try simp only [mo1, Act.put, List.setIfInBounds_toArray, List.set_cons_zero, List.set_cons_succ]
    refine tkm (v := ?_) 2 mo2 rfl (by as_aux_lemma => kernel_rfl) (by as_aux_lemma => kernel_rfl) (by as_aux_lemma => kernel_rfl) (fun _ _ _ h => h) (by rfl) hHeld ?_ ?_
    rotate_left
    · (unfold mo2; intro w hSw; (try dsimp only at hSw); go_simp)
      all_goals with_reducible rfl
    try simp only [mo2, Act.put, List.setIfInBounds_toArray, List.set_cons_zero, List.set_cons_succ]
    refine tkm (v := ?_) 3 mo3 rfl (by as_aux_lemma => kernel_rfl) (by as_aux_lemma => kernel_rfl) (by as_aux_lemma => kernel_rfl) (fun _ _ _ h => h) (by rfl) hHeld ?_ ?_
    rotate_left
    · (unfold mo3; intro w hSw; (try dsimp only at hSw); go_simp)
      all_goals with_reducible rfl
    try simp only [mo3, Act.put, List.setIfInBounds_toArray, List.set_cons_zero, List.set_cons_succ]
    refine wpAnyH_ready (rs := [4]) (by as_aux_lemma => kernel_rfl) (by simp) ?_
    refine (AllReadyH.cons (o := mo4) rfl (fun K hK => ?_) AllReadyH.nil)
    unfold mo4; go_simp
    go_at_call 17
    refine (sameB2_any q4 o4 o4.length k4 rfl (some ⟨w14.heap.size, 0, none⟩) nW 2 2 E4.out.symm H4.out _ HL4.out HW.out (by have := H4.out; omega)).mono ?_
    rintro e w85 ⟨rfl, hg⟩
    have hX := hX.bel hg
    have hY := hY.bel hg
    have HL5 := Lib.hid (HL5.out.bel hg)
    have HW := Lib.hid (HW.out.bel hg)
    have hd := hd.trans' hg
    clear hg
    first | refine hK.out _ _ ?_ (fun hHeld => ?_) | (go_wp2_with fail; refine hK.out _ _ ?_ (fun hHeld => ?_))
    · (try dsimp only); exact ⟨hX.cells, hY.cells⟩
    clear hK K
    try simp only [Act.put, List.setIfInBounds_toArray, List.set_cons_zero, List.set_cons_succ]
    refine tkm (v := ?_) 5 mo5 rfl (by as_aux_lemma => kernel_rfl) (by as_aux_lemma => kernel_rfl) (by as_aux_lemma => kernel_rfl) (fun _ _ _ h => h) (by rfl) hHeld ?_ ?_
    rotate_left
    · (unfold mo5; intro w hSw; (try dsimp only at hSw); go_simp)
      all_goals with_reducible rfl
    try simp only [mo5, Act.put, List.setIfInBounds_toArray, List.set_cons_zero, List.set_cons_succ]
    refine tkm (v := ?_) 6 mo6 rfl (by as_aux_lemma => kernel_rfl) (by as_aux_lemma => kernel_rfl) (by as_aux_lemma => kernel_rfl) (fun _ _ _ h => h) (by rfl) hHeld ?_ ?_
    rotate_left
    · (unfold mo6; intro w hSw; (try dsimp only at hSw); go_simp)
      all_goals with_reducible rfl
    try simp only [mo6, Act.put, List.setIfInBounds_toArray, List.set_cons_zero, List.set_cons_succ]
    refine tkm (v := ?_) 7 mo7 rfl (by as_aux_lemma => kernel_rfl) (by as_aux_lemma => kernel_rfl) (by as_aux_lemma => kernel_rfl) (fun _ _ _ h => h) (by rfl) hHeld ?_ ?_
    rotate_left
    · (unfold mo7; intro w hSw; (try dsimp only at hSw); go_simp)
      all_goals with_reducible rfl
    try simp only [mo7, Act.put, List.setIfInBounds_toArray, List.set_cons_zero, List.set_cons_succ]
    refine tkm (v := ?_) 8 mo8 rfl (by as_aux_lemma => kernel_rfl) (by as_aux_lemma => kernel_rfl) (by as_aux_lemma => kernel_rfl) (fun _ _ _ h => h) (by rfl) hHeld ?_ ?_
    rotate_left
    · (unfold mo8; intro w hSw; (try dsimp only at hSw); go_simp)
      all_goals with_reducible rfl
    try simp only [mo8, Act.put, List.setIfInBounds_toArray, List.set_cons_zero, List.set_cons_succ]
    refine tkm (v := ?_) 9 mo9 rfl (by as_aux_lemma => kernel_rfl) (by as_aux_lemma => kernel_rfl) (by as_aux_lemma => kernel_rfl) (fun _ _ _ h => h) (by rfl) hHeld ?_ ?_
    rotate_left
    · (unfold mo9; intro w hSw; (try dsimp only at hSw); go_simp)
      all_goals with_reducible rfl
    try simp only [mo9, Act.put, List.setIfInBounds_toArray, List.set_cons_zero, List.set_cons_succ]
    refine tkm (v := ?_) 10 mo10 rfl (by as_aux_lemma => kernel_rfl) (by as_aux_lemma => kernel_rfl) (by as_aux_lemma => kernel_rfl) (fun _ _ _ h => h) (by rfl) hHeld ?_ ?_
    rotate_left
    · (unfold mo10; intro w hSw; (try dsimp only at hSw); go_simp)
      all_goals with_reducible rfl
    try simp only [mo10, Act.put, List.setIfInBounds_toArray, List.set_cons_zero, List.set_cons_succ]
    refine tkm (v := ?_) 11 mo11 rfl (by as_aux_lemma => kernel_rfl) (by as_aux_lemma => kernel_rfl) (by as_aux_lemma => kernel_rfl) (fun _ _ _ h => h) (by rfl) hHeld ?_ ?_
    rotate_left
    · (unfold mo11; intro w hSw; (try dsimp only at hSw); go_simp)
      all_goals with_reducible rfl
    try simp only [mo11, Act.put, List.setIfInBounds_toArray, List.set_cons_zero, List.set_cons_succ]
    refine wpAnyH_ready (rs := [12]) (by as_aux_lemma => kernel_rfl) (by simp) ?_
    refine (AllReadyH.cons (o := mo12) rfl (fun K hK => ?_) AllReadyH.nil)
    unfold mo12; go_simp
    go_at_call 17
    refine (sameB2_any q5 o5 o5.length k5 rfl (some ⟨w14.heap.size, 0, none⟩) nW 2 2 E5.out.symm H5.out _ HL5.out HW.out (by have := H5.out; omega)).mono ?_
    rintro e w93 ⟨rfl, hg⟩
    have hX := hX.bel hg
    have hY := hY.bel hg
    have hd := hd.trans' hg
    clear hg
    first | refine hK.out _ _ ?_ (fun hHeld => ?_) | (go_wp2_with fail; refine hK.out _ _ ?_ (fun hHeld => ?_))
    · (try dsimp only); exact ⟨hX.cells, hY.cells⟩
    clear hK K
    try simp only [Act.put, List.setIfInBounds_toArray, List.set_cons_zero, List.set_cons_succ]
    refine tkm (v := ?_) 13 mo13 rfl (by as_aux_lemma => kernel_rfl) (by as_aux_lemma => kernel_rfl) (by as_aux_lemma => kernel_rfl) (fun _ _ _ h => h) (by rfl) hHeld ?_ ?_
    rotate_left
    · (unfold mo13; intro w hSw; (try dsimp only at hSw); go_simp)
      all_goals with_reducible rfl
    try simp only [mo13, Act.put, List.setIfInBounds_toArray, List.set_cons_zero, List.set_cons_succ]
    refine tkm (v := ?_) 14 mo14 rfl (by as_aux_lemma => kernel_rfl) (by as_aux_lemma => kernel_rfl) (by as_aux_lemma => kernel_rfl) (fun _ _ _ h => h) (by rfl) hHeld ?_ ?_
    rotate_left
    · (unfold mo14; intro w hSw; (try dsimp only at hSw); go_simp)
      all_goals with_reducible rfl
    try simp only [mo14, Act.put, List.setIfInBounds_toArray, List.set_cons_zero, List.set_cons_succ]
    refine tkm (v := ?_) 15 mo15 rfl (by as_aux_lemma => kernel_rfl) (by as_aux_lemma => kernel_rfl) (by as_aux_lemma => kernel_rfl) (fun _ _ _ h => h) (by rfl) hHeld ?_ ?_
    rotate_left
    · (unfold mo15; intro w hSw; (try dsimp only at hSw); go_simp)
      all_goals with_reducible rfl
    try simp only [mo15, Act.put, List.setIfInBounds_toArray, List.set_cons_zero, List.set_cons_succ]
    refine tkm (v := ?_) 16 mo16 rfl (by as_aux_lemma => kernel_rfl) (by as_aux_lemma => kernel_rfl) (by as_aux_lemma => kernel_rfl) (fun _ _ _ h => h) (by rfl) hHeld ?_ ?_
    rotate_left
    · (unfold mo16; intro w hSw; (try dsimp only at hSw); go_simp)
      all_goals with_reducible rfl
    try simp only [mo16, Act.put, List.setIfInBounds_toArray, List.set_cons_zero, List.set_cons_succ]
    refine tkm (v := ?_) 17 mo17 rfl (by as_aux_lemma => kernel_rfl) (by as_aux_lemma => kernel_rfl) (by as_aux_lemma => kernel_rfl) (fun _ _ _ h => h) (by rfl) hHeld ?_ ?_
    rotate_left
    · (unfold mo17; intro w hSw; (try dsimp only at hSw); go_simp)
      all_goals with_reducible rfl
    try simp only [mo17, Act.put, List.setIfInBounds_toArray, List.set_cons_zero, List.set_cons_succ]
    refine tkm (v := ?_) 18 mo18 rfl (by as_aux_lemma => kernel_rfl) (by as_aux_lemma => kernel_rfl) (by as_aux_lemma => kernel_rfl) (fun _ _ _ h => h) (by rfl) hHeld ?_ ?_
    rotate_left
    · (unfold mo18; intro w hSw; (try dsimp only at hSw); go_simp)
      all_goals with_reducible rfl
    try simp only [mo18, Act.put, List.setIfInBounds_toArray, List.set_cons_zero, List.set_cons_succ]
    refine tkm (v := ?_) 19 mo19 rfl (by as_aux_lemma => kernel_rfl) (by as_aux_lemma => kernel_rfl) (by as_aux_lemma => kernel_rfl) (fun _ _ _ h => h) (by rfl) hHeld ?_ ?_
    rotate_left
    · (unfold mo19; intro w hSw; (try dsimp only at hSw); go_simp)
      all_goals with_reducible rfl
    try simp only [mo19, Act.put, List.setIfInBounds_toArray, List.set_cons_zero, List.set_cons_succ]
    refine tkm (v := ?_) 20 mo20 rfl (by as_aux_lemma => kernel_rfl) (by as_aux_lemma => kernel_rfl) (by as_aux_lemma => kernel_rfl) (fun _ _ _ h => h) (by rfl) hHeld ?_ ?_
    rotate_left
    · (unfold mo20; intro w hSw; (try dsimp only at hSw); go_simp)
      all_goals with_reducible rfl
    try simp only [mo20, Act.put, List.setIfInBounds_toArray, List.set_cons_zero, List.set_cons_succ]
    refine tkm (v := ?_) 21 mo21 rfl (by as_aux_lemma => kernel_rfl) (by as_aux_lemma => kernel_rfl) (by as_aux_lemma => kernel_rfl) (fun _ _ _ h => h) (by rfl) hHeld ?_ ?_
    rotate_left
    · (unfold mo21; intro w hSw; (try dsimp only at hSw); go_simp)
      all_goals with_reducible rfl
    try simp only [mo21, Act.put, List.setIfInBounds_toArray, List.set_cons_zero, List.set_cons_succ]
    refine tkm (v := ?_) 22 mo22 rfl (by as_aux_lemma => kernel_rfl) (by as_aux_lemma => kernel_rfl) (by as_aux_lemma => kernel_rfl) (fun _ _ _ h => h) (by rfl) hHeld ?_ ?_
    rotate_left
    · (unfold mo22; intro w hSw; (try dsimp only at hSw); go_simp)
      all_goals with_reducible rfl
    try simp only [mo22, Act.put, List.setIfInBounds_toArray, List.set_cons_zero, List.set_cons_succ]
    refine tkm (v := ?_) 23 mo23 rfl (by as_aux_lemma => kernel_rfl) (by as_aux_lemma => kernel_rfl) (by as_aux_lemma => kernel_rfl) (fun _ _ _ h => h) (by rfl) hHeld ?_ ?_
    rotate_left
    · (unfold mo23; intro w hSw; (try dsimp only at hSw); go_simp)
      all_goals with_reducible rfl
    try simp only [mo23, Act.put, List.setIfInBounds_toArray, List.set_cons_zero, List.set_cons_succ]
    refine tkm (v := ?_) 24 mo24 rfl (by as_aux_lemma => kernel_rfl) (by as_aux_lemma => kernel_rfl) (by as_aux_lemma => kernel_rfl) (fun _ _ _ h => h) (by rfl) hHeld ?_ ?_
    rotate_left
    · (unfold mo24; intro w hSw; (try dsimp only at hSw); go_simp)
      all_goals with_reducible rfl
    try simp only [mo24, Act.put, List.setIfInBounds_toArray, List.set_cons_zero, List.set_cons_succ]
    refine tkm (v := ?_) 25 mo25 rfl (by as_aux_lemma => kernel_rfl) (by as_aux_lemma => kernel_rfl) (by as_aux_lemma => kernel_rfl) (fun _ _ _ h => h) (by rfl) hHeld ?_ ?_
    rotate_left
    · (unfold mo25; intro w hSw; (try dsimp only at hSw); go_simp)
      all_goals with_reducible rfl
    try simp only [mo25, Act.put, List.setIfInBounds_toArray, List.set_cons_zero, List.set_cons_succ]
    refine tkm (v := ?_) 26 mo26 rfl (by as_aux_lemma => kernel_rfl) (by as_aux_lemma => kernel_rfl) (by as_aux_lemma => kernel_rfl) (fun _ _ _ h => h) (by rfl) hHeld ?_ ?_
    rotate_left
    · (unfold mo26; intro w hSw; (try dsimp only at hSw); go_simp)
      all_goals with_reducible rfl
    try simp only [mo26, Act.put, List.setIfInBounds_toArray, List.set_cons_zero, List.set_cons_succ]
    refine tkm (v := ?_) 27 mo27 rfl (by as_aux_lemma => kernel_rfl) (by as_aux_lemma => kernel_rfl) (by as_aux_lemma => kernel_rfl) (fun _ _ _ h => h) (by rfl) hHeld ?_ ?_
    rotate_left
    · (unfold mo27; intro w hSw; (try dsimp only at hSw); go_simp)
      all_goals with_reducible rfl
    try simp only [mo27, Act.put, List.setIfInBounds_toArray, List.set_cons_zero, List.set_cons_succ]
    refine tkm (v := ?_) 28 mo28 rfl (by as_aux_lemma => kernel_rfl) (by as_aux_lemma => kernel_rfl) (by as_aux_lemma => kernel_rfl) (fun _ _ _ h => h) (by rfl) hHeld ?_ ?_
    rotate_left
    · (unfold mo28; intro w hSw; (try dsimp only at hSw); go_simp)
      all_goals with_reducible rfl
    try simp only [mo28, Act.put, List.setIfInBounds_toArray, List.set_cons_zero, List.set_cons_succ]
    refine tkm (v := ?_) 29 mo29 rfl (by as_aux_lemma => kernel_rfl) (by as_aux_lemma => kernel_rfl) (by as_aux_lemma => kernel_rfl) (fun _ _ _ h => h) (by rfl) hHeld ?_ ?_
    rotate_left
    · (unfold mo29; intro w hSw; (try dsimp only at hSw); go_simp)
      all_goals with_reducible rfl
    try simp only [mo29, Act.put, List.setIfInBounds_toArray, List.set_cons_zero, List.set_cons_succ]
    refine tkm (v := ?_) 30 mo30 rfl (by as_aux_lemma => kernel_rfl) (by as_aux_lemma => kernel_rfl) (by as_aux_lemma => kernel_rfl) (fun _ _ _ h => h) (by rfl) hHeld ?_ ?_
    rotate_left
    · (unfold mo30; intro w hSw; (try dsimp only at hSw); go_simp)
      all_goals with_reducible rfl
    try simp only [mo30, Act.put, List.setIfInBounds_toArray, List.set_cons_zero, List.set_cons_succ]
    refine tkm (v := ?_) 31 mo31 rfl (by as_aux_lemma => kernel_rfl) (by as_aux_lemma => kernel_rfl) (by as_aux_lemma => kernel_rfl) (fun _ _ _ h => h) (by rfl) hHeld ?_ ?_
    rotate_left
    · (unfold mo31; intro w hSw; (try dsimp only at hSw); go_simp)
      all_goals with_reducible rfl
    try simp only [mo31, Act.put, List.setIfInBounds_toArray, List.set_cons_zero, List.set_cons_succ]
    refine tkm (v := ?_) 32 mo32 rfl (by as_aux_lemma => kernel_rfl) (by as_aux_lemma => kernel_rfl) (by as_aux_lemma => kernel_rfl) (fun _ _ _ h => h) (by rfl) hHeld ?_ ?_
    rotate_left
    · (unfold mo32; intro w hSw; (try dsimp only at hSw); go_simp)
      all_goals with_reducible rfl
    try simp only [mo32, Act.put, List.setIfInBounds_toArray, List.set_cons_zero, List.set_cons_succ]
    refine tkm (v := ?_) 33 mo33 rfl (by as_aux_lemma => kernel_rfl) (by as_aux_lemma => kernel_rfl) (by as_aux_lemma => kernel_rfl) (fun _ _ _ h => h) (by rfl) hHeld ?_ ?_
    rotate_left
    · (unfold mo33; intro w hSw; (try dsimp only at hSw); go_simp)
      all_goals with_reducible rfl
    try simp only [mo33, Act.put, List.setIfInBounds_toArray, List.set_cons_zero, List.set_cons_succ]
    refine tkm (v := ?_) 34 mo34 rfl (by as_aux_lemma => kernel_rfl) (by as_aux_lemma => kernel_rfl) (by as_aux_lemma => kernel_rfl) (fun _ _ _ h => h) (by rfl) hHeld ?_ ?_
    rotate_left
    · (unfold mo34; intro w hSw; (try dsimp only at hSw); go_simp)
      all_goals with_reducible rfl
    try simp only [mo34, Act.put, List.setIfInBounds_toArray, List.set_cons_zero, List.set_cons_succ]
    refine tkm (v := ?_) 35 mo35 rfl (by as_aux_lemma => kernel_rfl) (by as_aux_lemma => kernel_rfl) (by as_aux_lemma => kernel_rfl) (fun _ _ _ h => h) (by rfl) hHeld ?_ ?_
    rotate_left
    · (unfold mo35; intro w hSw; (try dsimp only at hSw); go_simp)
      all_goals with_reducible rfl
    try simp only [mo35, Act.put, List.setIfInBounds_toArray, List.set_cons_zero, List.set_cons_succ]
    refine tkm (v := ?_) 36 mo36 rfl (by as_aux_lemma => kernel_rfl) (by as_aux_lemma => kernel_rfl) (by as_aux_lemma => kernel_rfl) (fun _ _ _ h => h) (by rfl) hHeld ?_ ?_
    rotate_left
    · (unfold mo36; intro w hSw; (try dsimp only at hSw); go_simp)
      all_goals with_reducible rfl
    try simp only [mo36, Act.put, List.setIfInBounds_toArray, List.set_cons_zero, List.set_cons_succ]
    refine tkm (v := ?_) 37 mo37 rfl (by as_aux_lemma => kernel_rfl) (by as_aux_lemma => kernel_rfl) (by as_aux_lemma => kernel_rfl) (fun _ _ _ h => h) (by rfl) hHeld ?_ ?_
    rotate_left
    · (unfold mo37; intro w hSw; (try dsimp only at hSw); go_simp)
      all_goals with_reducible rfl
    try simp only [mo37, Act.put, List.setIfInBounds_toArray, List.set_cons_zero, List.set_cons_succ]
    refine tkm (v := ?_) 38 mo38 rfl (by as_aux_lemma => kernel_rfl) (by as_aux_lemma => kernel_rfl) (by as_aux_lemma => kernel_rfl) (fun _ _ _ h => h) (by rfl) hHeld ?_ ?_
    rotate_left
    · (unfold mo38; intro w hSw; (try dsimp only at hSw); go_simp)
      all_goals with_reducible rfl
    try simp only [mo38, Act.put, List.setIfInBounds_toArray, List.set_cons_zero, List.set_cons_succ]
    refine tkm (v := ?_) 39 mo39 rfl (by as_aux_lemma => kernel_rfl) (by as_aux_lemma => kernel_rfl) (by as_aux_lemma => kernel_rfl) (fun _ _ _ h => h) (by rfl) hHeld ?_ ?_
    rotate_left
    · (unfold mo39; intro w hSw; (try dsimp only at hSw); go_simp)
      all_goals with_reducible rfl
    try simp only [mo39, Act.put, List.setIfInBounds_toArray, List.set_cons_zero, List.set_cons_succ]
    refine tkm (v := ?_) 40 mo40 rfl (by as_aux_lemma => kernel_rfl) (by as_aux_lemma => kernel_rfl) (by as_aux_lemma => kernel_rfl) (fun _ _ _ h => h) (by rfl) hHeld ?_ ?_
    rotate_left
    · (unfold mo40; intro w hSw; (try dsimp only at hSw); go_simp)
      all_goals with_reducible rfl
    try simp only [mo40, Act.put, List.setIfInBounds_toArray, List.set_cons_zero, List.set_cons_succ]
    refine wpAnyH_ready (rs := [41]) (by as_aux_lemma => kernel_rfl) (by simp) ?_
    refine (AllReadyH.cons (o := mo41) rfl (fun K hK => ?_) AllReadyH.nil)
    unfold mo41; go_simp
    go_at_call 35
    refine (under_take a2 a2 _ HA2 HA2 nm8).mono ?_
    rintro e w122 ⟨rfl, hg⟩
    have hX := hX.bel hg
    have hY := hY.bel hg
    have hd := hd.trans' hg
    clear hg
    first | refine hK.out _ _ ?_ (fun hHeld => ?_) | (go_wp2_with fail; refine hK.out _ _ ?_ (fun hHeld => ?_))
    · (try dsimp only); exact ⟨hX.cells, hY.cells⟩
    clear hK K
    try simp only [Act.put, List.setIfInBounds_toArray, List.set_cons_zero, List.set_cons_succ]
    refine tkm (v := ?_) 42 mo42 rfl (by as_aux_lemma => kernel_rfl) (by as_aux_lemma => kernel_rfl) (by as_aux_lemma => kernel_rfl) (fun _ _ _ h => h) (by rfl) hHeld ?_ ?_
    rotate_left
    · (unfold mo42; intro w hSw; (try dsimp only at hSw); go_simp)
      all_goals with_reducible rfl
    try simp only [mo42, Act.put, List.setIfInBounds_toArray, List.set_cons_zero, List.set_cons_succ]
    refine tkm (v := ?_) 43 mo43 rfl (by as_aux_lemma => kernel_rfl) (by as_aux_lemma => kernel_rfl) (by as_aux_lemma => kernel_rfl) (fun _ _ _ h => h) (by rfl) hHeld ?_ ?_
    rotate_left
    · (unfold mo43; intro w hSw; (try dsimp only at hSw); go_simp)
      all_goals with_reducible rfl
    try simp only [mo43, Act.put, List.setIfInBounds_toArray, List.set_cons_zero, List.set_cons_succ]
    apply cutL
    · intro key
      refine wpAnyH_ready (rs := [44, 46]) (by as_aux_lemma => kernel_rfl) (by simp) ?_
      refine (AllReadyH.cons (o := mo44) rfl (fun K hK => ?_) (AllReadyH.cons (o := mo46) rfl (fun K hK => ?_) AllReadyH.nil))
      unfold mo44; go_simp
      have hg := bel_alloc w122 (.cells #[.string ⟨#[90]⟩, .string ⟨#[90]⟩] 9)
      have hN := listAt_lit w122 9 #[.string ⟨#[90]⟩, .string ⟨#[90]⟩]
      obtain ⟨w125, hW⟩ : ∃ x, x = w122.alloc (.cells #[.string ⟨#[90]⟩, .string ⟨#[90]⟩] 9) := ⟨_, rfl⟩
      rw [← hW] at hg hN ⊢
      have hX := hX.bel hg
      have hY := hY.bel hg
      have hd := hd.trans' hg
      clear hg hW
      have HT125 := Lib.hid hN
      clear hN
      first | refine hK.out _ _ ?_ (fun hHeld => ?_) | (go_wp2_with fail; refine hK.out _ _ ?_ (fun hHeld => ?_))
      · (try dsimp only); exact ⟨hX.cells, hY.cells⟩
      clear hK K
      try simp only [Act.put, List.setIfInBounds_toArray, List.set_cons_zero, List.set_cons_succ]
      refine wpAnyH_ready (rs := [45, 46]) (by as_aux_lemma => kernel_rfl) (by simp) ?_
      refine (AllReadyH.cons (o := mo45) rfl (fun K hK => ?_) (AllReadyH.cons (o := mo46) rfl (fun K hK => ?_) AllReadyH.nil))
      unfold mo45; go_simp
      go_at_call 32
      refine (kAg 90 90 _ _ HT125.out).mono ?_
      rintro e w126 ⟨⟨b126, HB126, rfl⟩, hg⟩
      have hX := hX.bel hg
      have hY := hY.bel hg
      have hd := hd.trans' hg
      clear hg
      first | refine hK.out _ _ ?_ (fun hHeld => ?_) | (go_wp2_with fail; refine hK.out _ _ ?_ (fun hHeld => ?_))
      · (try dsimp only); exact ⟨hX.cells, hY.cells⟩
      clear hK K
      try simp only [Act.put, List.setIfInBounds_toArray, List.set_cons_zero, List.set_cons_succ]
      refine wpAnyH_ready (rs := [46]) (by as_aux_lemma => kernel_rfl) (by simp) ?_
      refine (AllReadyH.cons (o := mo46) rfl (fun K hK => ?_) AllReadyH.nil)
      unfold mo46; go_simp
      have hg := bel_alloc w126 (.cells #[.string ⟨#[88]⟩, .string ⟨#[89]⟩] 9)
      have hN := listAt_lit w126 9 #[.string ⟨#[88]⟩, .string ⟨#[89]⟩]
      obtain ⟨w127, hW⟩ : ∃ x, x = w126.alloc (.cells #[.string ⟨#[88]⟩, .string ⟨#[89]⟩] 9) := ⟨_, rfl⟩
      rw [← hW] at hg hN ⊢
      have hX := hX.bel hg
      have hY := hY.bel hg
      have hd := hd.trans' hg
      clear hg hW
      have HT127 := Lib.hid hN
      clear hN
      first | refine hK.out _ _ ?_ (fun hHeld => ?_) | (go_wp2_with fail; refine hK.out _ _ ?_ (fun hHeld => ?_))
      · (try dsimp only); exact ⟨hX.cells, hY.cells⟩
      clear hK K
      try simp only [Act.put, List.setIfInBounds_toArray, List.set_cons_zero, List.set_cons_succ]
      refine wpAnyH_ready (rs := [47]) (by as_aux_lemma => kernel_rfl) (by simp) ?_
      refine (AllReadyH.cons (o := mo47) rfl (fun K hK => ?_) AllReadyH.nil)
      unfold mo47; go_simp
      go_at_call 32
      refine (kAg 88 89 _ _ HT127.out).mono ?_
      rintro e w128 ⟨⟨b128, HB128, rfl⟩, hg⟩
      have hX := hX.bel hg
      have hY := hY.bel hg
      have hd := hd.trans' hg
      clear hg
      first | refine hK.out _ _ ?_ (fun hHeld => ?_) | (go_wp2_with fail; refine hK.out _ _ ?_ (fun hHeld => ?_))
      · (try dsimp only); exact ⟨hX.cells, hY.cells⟩
      clear hK K
      try simp only [Act.put, List.setIfInBounds_toArray, List.set_cons_zero, List.set_cons_succ]
      refine wpAnyH_ready (rs := [48]) (by as_aux_lemma => kernel_rfl) (by simp) ?_
      refine (AllReadyH.cons (o := mo48) rfl (fun K hK => ?_) AllReadyH.nil)
      unfold mo48; go_simp
      go_at_call 35
      refine (under_take b126 b128 _ HB126 HB128 nm9).mono ?_
      rintro e w129 ⟨rfl, hg⟩
      have hX := hX.bel hg
      have hY := hY.bel hg
      have hd := hd.trans' hg
      clear hg
      first | refine hK.out _ _ ?_ (fun hHeld => ?_) | (go_wp2_with fail; refine hK.out _ _ ?_ (fun hHeld => ?_))
      · (try dsimp only); exact ⟨hX.cells, hY.cells⟩
      clear hK K
      try simp only [Act.put, List.setIfInBounds_toArray, List.set_cons_zero, List.set_cons_succ]
      refine tkm (v := ?_) 49 mo49 rfl (by as_aux_lemma => kernel_rfl) (by as_aux_lemma => kernel_rfl) (by as_aux_lemma => kernel_rfl) (fun _ _ _ h => h) (by rfl) hHeld ?_ ?_
      rotate_left
      · (unfold mo49; intro w hSw; (try dsimp only at hSw); go_simp)
        all_goals with_reducible rfl
      try simp only [mo49, Act.put, List.setIfInBounds_toArray, List.set_cons_zero, List.set_cons_succ]
      refine tkm (v := ?_) 50 mo50 rfl (by as_aux_lemma => kernel_rfl) (by as_aux_lemma => kernel_rfl) (by as_aux_lemma => kernel_rfl) (fun _ _ _ h => h) (by rfl) hHeld ?_ ?_
      rotate_left
      · (unfold mo50; intro w hSw; (try dsimp only at hSw); go_simp)
        all_goals with_reducible rfl
      try simp only [mo50, Act.put, List.setIfInBounds_toArray, List.set_cons_zero, List.set_cons_succ]
      generalize w122.heap.size = z125
      generalize w126.heap.size = z127
      clear HB126 HB128
      revert w129
      revert b126
      revert b128
      revert z125
      revert z127
      exact key
      unfold mo46; go_simp
      have hg := bel_alloc w125 (.cells #[.string ⟨#[88]⟩, .string ⟨#[89]⟩] 9)
      have hN := listAt_lit w125 9 #[.string ⟨#[88]⟩, .string ⟨#[89]⟩]
      obtain ⟨w127, hW⟩ : ∃ x, x = w125.alloc (.cells #[.string ⟨#[88]⟩, .string ⟨#[89]⟩] 9) := ⟨_, rfl⟩
      rw [← hW] at hg hN ⊢
      have hX := hX.bel hg
      have hY := hY.bel hg
      have HT125 := Lib.hid (listAt_bel HT125.out hg)
      have hd := hd.trans' hg
      clear hg hW
      have HT127 := Lib.hid hN
      clear hN
      first | refine hK.out _ _ ?_ (fun hHeld => ?_) | (go_wp2_with fail; refine hK.out _ _ ?_ (fun hHeld => ?_))
      · (try dsimp only); exact ⟨hX.cells, hY.cells⟩
      clear hK K
      try simp only [Act.put, List.setIfInBounds_toArray, List.set_cons_zero, List.set_cons_succ]
      refine wpAnyH_ready (rs := [45]) (by as_aux_lemma => kernel_rfl) (by simp) ?_
      refine (AllReadyH.cons (o := mo45) rfl (fun K hK => ?_) AllReadyH.nil)
      unfold mo45; go_simp
      go_at_call 32
      refine (kAg 90 90 _ _ HT125.out).mono ?_
      rintro e w126 ⟨⟨b126, HB126, rfl⟩, hg⟩
      have hX := hX.bel hg
      have hY := hY.bel hg
      have HT127 := Lib.hid (listAt_bel HT127.out hg)
      have hd := hd.trans' hg
      clear hg
      first | refine hK.out _ _ ?_ (fun hHeld => ?_) | (go_wp2_with fail; refine hK.out _ _ ?_ (fun hHeld => ?_))
      · (try dsimp only); exact ⟨hX.cells, hY.cells⟩
      clear hK K
      try simp only [Act.put, List.setIfInBounds_toArray, List.set_cons_zero, List.set_cons_succ]
      refine wpAnyH_ready (rs := [47]) (by as_aux_lemma => kernel_rfl) (by simp) ?_
      refine (AllReadyH.cons (o := mo47) rfl (fun K hK => ?_) AllReadyH.nil)
      unfold mo47; go_simp
      go_at_call 32
      refine (kAg 88 89 _ _ HT127.out).mono ?_
      rintro e w128 ⟨⟨b128, HB128, rfl⟩, hg⟩
      have hX := hX.bel hg
      have hY := hY.bel hg
      have hd := hd.trans' hg
      clear hg
      first | refine hK.out _ _ ?_ (fun hHeld => ?_) | (go_wp2_with fail; refine hK.out _ _ ?_ (fun hHeld => ?_))
      · (try dsimp only); exact ⟨hX.cells, hY.cells⟩
      clear hK K
      try simp only [Act.put, List.setIfInBounds_toArray, List.set_cons_zero, List.set_cons_succ]
      refine wpAnyH_ready (rs := [48]) (by as_aux_lemma => kernel_rfl) (by simp) ?_
      refine (AllReadyH.cons (o := mo48) rfl (fun K hK => ?_) AllReadyH.nil)
      unfold mo48; go_simp
      go_at_call 35
      refine (under_take b126 b128 _ HB126 HB128 nm9).mono ?_
      rintro e w129 ⟨rfl, hg⟩
      have hX := hX.bel hg
      have hY := hY.bel hg
      have hd := hd.trans' hg
      clear hg
      first | refine hK.out _ _ ?_ (fun hHeld => ?_) | (go_wp2_with fail; refine hK.out _ _ ?_ (fun hHeld => ?_))
      · (try dsimp only); exact ⟨hX.cells, hY.cells⟩
      clear hK K
      try simp only [Act.put, List.setIfInBounds_toArray, List.set_cons_zero, List.set_cons_succ]
      refine tkm (v := ?_) 49 mo49 rfl (by as_aux_lemma => kernel_rfl) (by as_aux_lemma => kernel_rfl) (by as_aux_lemma => kernel_rfl) (fun _ _ _ h => h) (by rfl) hHeld ?_ ?_
      rotate_left
      · (unfold mo49; intro w hSw; (try dsimp only at hSw); go_simp)
        all_goals with_reducible rfl
      try simp only [mo49, Act.put, List.setIfInBounds_toArray, List.set_cons_zero, List.set_cons_succ]
      refine tkm (v := ?_) 50 mo50 rfl (by as_aux_lemma => kernel_rfl) (by as_aux_lemma => kernel_rfl) (by as_aux_lemma => kernel_rfl) (fun _ _ _ h => h) (by rfl) hHeld ?_ ?_
      rotate_left
      · (unfold mo50; intro w hSw; (try dsimp only at hSw); go_simp)
        all_goals with_reducible rfl
      try simp only [mo50, Act.put, List.setIfInBounds_toArray, List.set_cons_zero, List.set_cons_succ]
      generalize w122.heap.size = z125
      generalize w125.heap.size = z127
      clear HB126 HB128
      revert w129
      revert b126
      revert b128
      revert z125
      revert z127
      exact key
      unfold mo46; go_simp
      have hg := bel_alloc w122 (.cells #[.string ⟨#[88]⟩, .string ⟨#[89]⟩] 9)
      have hN := listAt_lit w122 9 #[.string ⟨#[88]⟩, .string ⟨#[89]⟩]
      obtain ⟨w127, hW⟩ : ∃ x, x = w122.alloc (.cells #[.string ⟨#[88]⟩, .string ⟨#[89]⟩] 9) := ⟨_, rfl⟩
      rw [← hW] at hg hN ⊢
      have hX := hX.bel hg
      have hY := hY.bel hg
      have hd := hd.trans' hg
      clear hg hW
      have HT127 := Lib.hid hN
      clear hN
      first | refine hK.out _ _ ?_ (fun hHeld => ?_) | (go_wp2_with fail; refine hK.out _ _ ?_ (fun hHeld => ?_))
      · (try dsimp only); exact ⟨hX.cells, hY.cells⟩
      clear hK K
      try simp only [Act.put, List.setIfInBounds_toArray, List.set_cons_zero, List.set_cons_succ]
      refine wpAnyH_ready (rs := [44]) (by as_aux_lemma => kernel_rfl) (by simp) ?_
      refine (AllReadyH.cons (o := mo44) rfl (fun K hK => ?_) AllReadyH.nil)
      unfold mo44; go_simp
      have hg := bel_alloc w127 (.cells #[.string ⟨#[90]⟩, .string ⟨#[90]⟩] 9)
      have hN := listAt_lit w127 9 #[.string ⟨#[90]⟩, .string ⟨#[90]⟩]
      obtain ⟨w125, hW⟩ : ∃ x, x = w127.alloc (.cells #[.string ⟨#[90]⟩, .string ⟨#[90]⟩] 9) := ⟨_, rfl⟩
      rw [← hW] at hg hN ⊢
      have hX := hX.bel hg
      have hY := hY.bel hg
      have HT127 := Lib.hid (listAt_bel HT127.out hg)
      have hd := hd.trans' hg
      clear hg hW
      have HT125 := Lib.hid hN
      clear hN
      first | refine hK.out _ _ ?_ (fun hHeld => ?_) | (go_wp2_with fail; refine hK.out _ _ ?_ (fun hHeld => ?_))
      · (try dsimp only); exact ⟨hX.cells, hY.cells⟩
      clear hK K
      try simp only [Act.put, List.setIfInBounds_toArray, List.set_cons_zero, List.set_cons_succ]
      refine wpAnyH_ready (rs := [45]) (by as_aux_lemma => kernel_rfl) (by simp) ?_
      refine (AllReadyH.cons (o := mo45) rfl (fun K hK => ?_) AllReadyH.nil)
      unfold mo45; go_simp
      go_at_call 32
      refine (kAg 90 90 _ _ HT125.out).mono ?_
      rintro e w126 ⟨⟨b126, HB126, rfl⟩, hg⟩
      have hX := hX.bel hg
      have hY := hY.bel hg
      have HT127 := Lib.hid (listAt_bel HT127.out hg)
      have hd := hd.trans' hg
      clear hg
      first | refine hK.out _ _ ?_ (fun hHeld => ?_) | (go_wp2_with fail; refine hK.out _ _ ?_ (fun hHeld => ?_))
      · (try dsimp only); exact ⟨hX.cells, hY.cells⟩
      clear hK K
      try simp only [Act.put, List.setIfInBounds_toArray, List.set_cons_zero, List.set_cons_succ]
      refine wpAnyH_ready (rs := [47]) (by as_aux_lemma => kernel_rfl) (by simp) ?_
      refine (AllReadyH.cons (o := mo47) rfl (fun K hK => ?_) AllReadyH.nil)
      unfold mo47; go_simp
      go_at_call 32
      refine (kAg 88 89 _ _ HT127.out).mono ?_
      rintro e w128 ⟨⟨b128, HB128, rfl⟩, hg⟩
      have hX := hX.bel hg
      have hY := hY.bel hg
      have hd := hd.trans' hg
      clear hg
      first | refine hK.out _ _ ?_ (fun hHeld => ?_) | (go_wp2_with fail; refine hK.out _ _ ?_ (fun hHeld => ?_))
      · (try dsimp only); exact ⟨hX.cells, hY.cells⟩
      clear hK K
      try simp only [Act.put, List.setIfInBounds_toArray, List.set_cons_zero, List.set_cons_succ]
      refine wpAnyH_ready (rs := [48]) (by as_aux_lemma => kernel_rfl) (by simp) ?_
      refine (AllReadyH.cons (o := mo48) rfl (fun K hK => ?_) AllReadyH.nil)
      unfold mo48; go_simp
      go_at_call 35
      refine (under_take b126 b128 _ HB126 HB128 nm9).mono ?_
      rintro e w129 ⟨rfl, hg⟩
      have hX := hX.bel hg
      have hY := hY.bel hg
      have hd := hd.trans' hg
      clear hg
      first | refine hK.out _ _ ?_ (fun hHeld => ?_) | (go_wp2_with fail; refine hK.out _ _ ?_ (fun hHeld => ?_))
      · (try dsimp only); exact ⟨hX.cells, hY.cells⟩
      clear hK K
      try simp only [Act.put, List.setIfInBounds_toArray, List.set_cons_zero, List.set_cons_succ]
      refine tkm (v := ?_) 49 mo49 rfl (by as_aux_lemma => kernel_rfl) (by as_aux_lemma => kernel_rfl) (by as_aux_lemma => kernel_rfl) (fun _ _ _ h => h) (by rfl) hHeld ?_ ?_
      rotate_left
      · (unfold mo49; intro w hSw; (try dsimp only at hSw); go_simp)
        all_goals with_reducible rfl
      try simp only [mo49, Act.put, List.setIfInBounds_toArray, List.set_cons_zero, List.set_cons_succ]
      refine tkm (v := ?_) 50 mo50 rfl (by as_aux_lemma => kernel_rfl) (by as_aux_lemma => kernel_rfl) (by as_aux_lemma => kernel_rfl) (fun _ _ _ h => h) (by rfl) hHeld ?_ ?_
      rotate_left
      · (unfold mo50; intro w hSw; (try dsimp only at hSw); go_simp)
        all_goals with_reducible rfl
      try simp only [mo50, Act.put, List.setIfInBounds_toArray, List.set_cons_zero, List.set_cons_succ]
      generalize w127.heap.size = z125
      generalize w122.heap.size = z127
      clear HB126 HB128
      revert w129
      revert b126
      revert b128
      revert z125
      revert z127
      exact key
    · focus
        intro z127 z125 b128 b126 w129 hX hY hd hHeld
        apply cutL
        · intro key
          refine wpAnyH_ready (rs := [51, 53]) (by as_aux_lemma => kernel_rfl) (by simp) ?_
          refine (AllReadyH.cons (o := mo51) rfl (fun K hK => ?_) (AllReadyH.cons (o := mo53) rfl (fun K hK => ?_) AllReadyH.nil))
          unfold mo51; go_simp
          have hg := bel_alloc w129 (.cells #[.string ⟨#[88]⟩, .string ⟨#[89]⟩] 9)
          have hN := listAt_lit w129 9 #[.string ⟨#[88]⟩, .string ⟨#[89]⟩]
          obtain ⟨w132, hW⟩ : ∃ x, x = w129.alloc (.cells #[.string ⟨#[88]⟩, .string ⟨#[89]⟩] 9) := ⟨_, rfl⟩
          rw [← hW] at hg hN ⊢
          have hX := hX.bel hg
          have hY := hY.bel hg
          have hd := hd.trans' hg
          clear hg hW
          have HT132 := Lib.hid hN
          clear hN
          first | refine hK.out _ _ ?_ (fun hHeld => ?_) | (go_wp2_with fail; refine hK.out _ _ ?_ (fun hHeld => ?_))
          · (try dsimp only); exact ⟨hX.cells, hY.cells⟩
          clear hK K
          try simp only [Act.put, List.setIfInBounds_toArray, List.set_cons_zero, List.set_cons_succ]
          refine wpAnyH_ready (rs := [52, 53]) (by as_aux_lemma => kernel_rfl) (by simp) ?_
          refine (AllReadyH.cons (o := mo52) rfl (fun K hK => ?_) (AllReadyH.cons (o := mo53) rfl (fun K hK => ?_) AllReadyH.nil))
          unfold mo52; go_simp
          go_at_call 32
          refine (kAg 88 89 _ _ HT132.out).mono ?_
          rintro e w133 ⟨⟨b133, HB133, rfl⟩, hg⟩
          have hX := hX.bel hg
          have hY := hY.bel hg
          have hd := hd.trans' hg
          clear hg
          first | refine hK.out _ _ ?_ (fun hHeld => ?_) | (go_wp2_with fail; refine hK.out _ _ ?_ (fun hHeld => ?_))
          · (try dsimp only); exact ⟨hX.cells, hY.cells⟩
          clear hK K
          try simp only [Act.put, List.setIfInBounds_toArray, List.set_cons_zero, List.set_cons_succ]
          refine wpAnyH_ready (rs := [53]) (by as_aux_lemma => kernel_rfl) (by simp) ?_
          refine (AllReadyH.cons (o := mo53) rfl (fun K hK => ?_) AllReadyH.nil)
          unfold mo53; go_simp
          have hg := bel_alloc w133 (.cells #[.string ⟨#[90]⟩, .string ⟨#[90]⟩] 9)
          have hN := listAt_lit w133 9 #[.string ⟨#[90]⟩, .string ⟨#[90]⟩]
          obtain ⟨w134, hW⟩ : ∃ x, x = w133.alloc (.cells #[.string ⟨#[90]⟩, .string ⟨#[90]⟩] 9) := ⟨_, rfl⟩
          rw [← hW] at hg hN ⊢
          have hX := hX.bel hg
          have hY := hY.bel hg
          have hd := hd.trans' hg
          clear hg hW
          have HT134 := Lib.hid hN
          clear hN
          first | refine hK.out _ _ ?_ (fun hHeld => ?_) | (go_wp2_with fail; refine hK.out _ _ ?_ (fun hHeld => ?_))
          · (try dsimp only); exact ⟨hX.cells, hY.cells⟩
          clear hK K
          try simp only [Act.put, List.setIfInBounds_toArray, List.set_cons_zero, List.set_cons_succ]
          refine wpAnyH_ready (rs := [54]) (by as_aux_lemma => kernel_rfl) (by simp) ?_
          refine (AllReadyH.cons (o := mo54) rfl (fun K hK => ?_) AllReadyH.nil)
          unfold mo54; go_simp
          go_at_call 32
          refine (kAg 90 90 _ _ HT134.out).mono ?_
          rintro e w135 ⟨⟨b135, HB135, rfl⟩, hg⟩
          have hX := hX.bel hg
          have hY := hY.bel hg
          have hd := hd.trans' hg
          clear hg
          first | refine hK.out _ _ ?_ (fun hHeld => ?_) | (go_wp2_with fail; refine hK.out _ _ ?_ (fun hHeld => ?_))
          · (try dsimp only); exact ⟨hX.cells, hY.cells⟩
          clear hK K
          try simp only [Act.put, List.setIfInBounds_toArray, List.set_cons_zero, List.set_cons_succ]
          refine wpAnyH_ready (rs := [55]) (by as_aux_lemma => kernel_rfl) (by simp) ?_
          refine (AllReadyH.cons (o := mo55) rfl (fun K hK => ?_) AllReadyH.nil)
          unfold mo55; go_simp
          go_at_call 35
          refine (under_take b133 b135 _ HB133 HB135 nm10).mono ?_
          rintro e w136 ⟨rfl, hg⟩
          have hX := hX.bel hg
          have hY := hY.bel hg
          have hd := hd.trans' hg
          clear hg
          first | refine hK.out _ _ ?_ (fun hHeld => ?_) | (go_wp2_with fail; refine hK.out _ _ ?_ (fun hHeld => ?_))
          · (try dsimp only); exact ⟨hX.cells, hY.cells⟩
          clear hK K
          try simp only [Act.put, List.setIfInBounds_toArray, List.set_cons_zero, List.set_cons_succ]
          refine tkm (v := ?_) 56 mo56 rfl (by as_aux_lemma => kernel_rfl) (by as_aux_lemma => kernel_rfl) (by as_aux_lemma => kernel_rfl) (fun _ _ _ h => h) (by rfl) hHeld ?_ ?_
          rotate_left
          · (unfold mo56; intro w hSw; (try dsimp only at hSw); go_simp)
            all_goals with_reducible rfl
          try simp only [mo56, Act.put, List.setIfInBounds_toArray, List.set_cons_zero, List.set_cons_succ]
          refine tkm (v := ?_) 57 mo57 rfl (by as_aux_lemma => kernel_rfl) (by as_aux_lemma => kernel_rfl) (by as_aux_lemma => kernel_rfl) (fun _ _ _ h => h) (by rfl) hHeld ?_ ?_
          rotate_left
          · (unfold mo57; intro w hSw; (try dsimp only at hSw); go_simp)
            all_goals with_reducible rfl
          try simp only [mo57, Act.put, List.setIfInBounds_toArray, List.set_cons_zero, List.set_cons_succ]
          refine tkm (v := ?_) 58 mo58 rfl (by as_aux_lemma => kernel_rfl) (by as_aux_lemma => kernel_rfl) (by as_aux_lemma => kernel_rfl) (fun _ _ _ h => h) (by rfl) hHeld ?_ ?_
          rotate_left
          · (unfold mo58; intro w hSw; (try dsimp only at hSw); go_simp)
            all_goals with_reducible rfl
          try simp only [mo58, Act.put, List.setIfInBounds_toArray, List.set_cons_zero, List.set_cons_succ]
          generalize w129.heap.size = z132
          generalize w133.heap.size = z134
          clear HB133 HB135
          revert w136
          revert b133
          revert b135
          revert z132
          revert z134
          exact key
          unfold mo53; go_simp
          have hg := bel_alloc w132 (.cells #[.string ⟨#[90]⟩, .string ⟨#[90]⟩] 9)
          have hN := listAt_lit w132 9 #[.string ⟨#[90]⟩, .string ⟨#[90]⟩]
          obtain ⟨w134, hW⟩ : ∃ x, x = w132.alloc (.cells #[.string ⟨#[90]⟩, .string ⟨#[90]⟩] 9) := ⟨_, rfl⟩
          rw [← hW] at hg hN ⊢
          have hX := hX.bel hg
          have hY := hY.bel hg
          have HT132 := Lib.hid (listAt_bel HT132.out hg)
          have hd := hd.trans' hg
          clear hg hW
          have HT134 := Lib.hid hN
          clear hN
          first | refine hK.out _ _ ?_ (fun hHeld => ?_) | (go_wp2_with fail; refine hK.out _ _ ?_ (fun hHeld => ?_))
          · (try dsimp only); exact ⟨hX.cells, hY.cells⟩
          clear hK K
          try simp only [Act.put, List.setIfInBounds_toArray, List.set_cons_zero, List.set_cons_succ]
          refine wpAnyH_ready (rs := [52]) (by as_aux_lemma => kernel_rfl) (by simp) ?_
          refine (AllReadyH.cons (o := mo52) rfl (fun K hK => ?_) AllReadyH.nil)
          unfold mo52; go_simp
          go_at_call 32
          refine (kAg 88 89 _ _ HT132.out).mono ?_
          rintro e w133 ⟨⟨b133, HB133, rfl⟩, hg⟩
          have hX := hX.bel hg
          have hY := hY.bel hg
          have HT134 := Lib.hid (listAt_bel HT134.out hg)
          have hd := hd.trans' hg
          clear hg
          first | refine hK.out _ _ ?_ (fun hHeld => ?_) | (go_wp2_with fail; refine hK.out _ _ ?_ (fun hHeld => ?_))
          · (try dsimp only); exact ⟨hX.cells, hY.cells⟩
          clear hK K
          try simp only [Act.put, List.setIfInBounds_toArray, List.set_cons_zero, List.set_cons_succ]
          refine wpAnyH_ready (rs := [54]) (by as_aux_lemma => kernel_rfl) (by simp) ?_
          refine (AllReadyH.cons (o := mo54) rfl (fun K hK => ?_) AllReadyH.nil)
          unfold mo54; go_simp
          go_at_call 32
          refine (kAg 90 90 _ _ HT134.out).mono ?_
          rintro e w135 ⟨⟨b135, HB135, rfl⟩, hg⟩
          have hX := hX.bel hg
          have hY := hY.bel hg
          have hd := hd.trans' hg
          clear hg
          first | refine hK.out _ _ ?_ (fun hHeld => ?_) | (go_wp2_with fail; refine hK.out _ _ ?_ (fun hHeld => ?_))
          · (try dsimp only); exact ⟨hX.cells, hY.cells⟩
          clear hK K
          try simp only [Act.put, List.setIfInBounds_toArray, List.set_cons_zero, List.set_cons_succ]
          refine wpAnyH_ready (rs := [55]) (by as_aux_lemma => kernel_rfl) (by simp) ?_
          refine (AllReadyH.cons (o := mo55) rfl (fun K hK => ?_) AllReadyH.nil)
          unfold mo55; go_simp
          go_at_call 35
          refine (under_take b133 b135 _ HB133 HB135 nm10).mono ?_
          rintro e w136 ⟨rfl, hg⟩
          have hX := hX.bel hg
          have hY := hY.bel hg
          have hd := hd.trans' hg
          clear hg
          first | refine hK.out _ _ ?_ (fun hHeld => ?_) | (go_wp2_with fail; refine hK.out _ _ ?_ (fun hHeld => ?_))
          · (try dsimp only); exact ⟨hX.cells, hY.cells⟩
          clear hK K
          try simp only [Act.put, List.setIfInBounds_toArray, List.set_cons_zero, List.set_cons_succ]
          refine tkm (v := ?_) 56 mo56 rfl (by as_aux_lemma => kernel_rfl) (by as_aux_lemma => kernel_rfl) (by as_aux_lemma => kernel_rfl) (fun _ _ _ h => h) (by rfl) hHeld ?_ ?_
          rotate_left
          · (unfold mo56; intro w hSw; (try dsimp only at hSw); go_simp)
            all_goals with_reducible rfl
          try simp only [mo56, Act.put, List.setIfInBounds_toArray, List.set_cons_zero, List.set_cons_succ]
          refine tkm (v := ?_) 57 mo57 rfl (by as_aux_lemma => kernel_rfl) (by as_aux_lemma => kernel_rfl) (by as_aux_lemma => kernel_rfl) (fun _ _ _ h => h) (by rfl) hHeld ?_ ?_
          rotate_left
          · (unfold mo57; intro w hSw; (try dsimp only at hSw); go_simp)
            all_goals with_reducible rfl
          try simp only [mo57, Act.put, List.setIfInBounds_toArray, List.set_cons_zero, List.set_cons_succ]
          refine tkm (v := ?_) 58 mo58 rfl (by as_aux_lemma => kernel_rfl) (by as_aux_lemma => kernel_rfl) (by as_aux_lemma => kernel_rfl) (fun _ _ _ h => h) (by rfl) hHeld ?_ ?_
          rotate_left
          · (unfold mo58; intro w hSw; (try dsimp only at hSw); go_simp)
            all_goals with_reducible rfl
          try simp only [mo58, Act.put, List.setIfInBounds_toArray, List.set_cons_zero, List.set_cons_succ]
          generalize w129.heap.size = z132
          generalize w132.heap.size = z134
          clear HB133 HB135
          revert w136
          revert b133
          revert b135
          revert z132
          revert z134
          exact key
          unfold mo53; go_simp
          have hg := bel_alloc w129 (.cells #[.string ⟨#[90]⟩, .string ⟨#[90]⟩] 9)
          have hN := listAt_lit w129 9 #[.string ⟨#[90]⟩, .string ⟨#[90]⟩]
          obtain ⟨w134, hW⟩ : ∃ x, x = w129.alloc (.cells #[.string ⟨#[90]⟩, .string ⟨#[90]⟩] 9) := ⟨_, rfl⟩
          rw [← hW] at hg hN ⊢
          have hX := hX.bel hg
          have hY := hY.bel hg
          have hd := hd.trans' hg
          clear hg hW
          have HT134 := Lib.hid hN
          clear hN
          first | refine hK.out _ _ ?_ (fun hHeld => ?_) | (go_wp2_with fail; refine hK.out _ _ ?_ (fun hHeld => ?_))
          · (try dsimp only); exact ⟨hX.cells, hY.cells⟩
          clear hK K
          try simp only [Act.put, List.setIfInBounds_toArray, List.set_cons_zero, List.set_cons_succ]
          refine wpAnyH_ready (rs := [51]) (by as_aux_lemma => kernel_rfl) (by simp) ?_
          refine (AllReadyH.cons (o := mo51) rfl (fun K hK => ?_) AllReadyH.nil)
          unfold mo51; go_simp
          have hg := bel_alloc w134 (.cells #[.string ⟨#[88]⟩, .string ⟨#[89]⟩] 9)
          have hN := listAt_lit w134 9 #[.string ⟨#[88]⟩, .string ⟨#[89]⟩]
          obtain ⟨w132, hW⟩ : ∃ x, x = w134.alloc (.cells #[.string ⟨#[88]⟩, .string ⟨#[89]⟩] 9) := ⟨_, rfl⟩
          rw [← hW] at hg hN ⊢
          have hX := hX.bel hg
          have hY := hY.bel hg
          have HT134 := Lib.hid (listAt_bel HT134.out hg)
          have hd := hd.trans' hg
          clear hg hW
          have HT132 := Lib.hid hN
          clear hN
          first | refine hK.out _ _ ?_ (fun hHeld => ?_) | (go_wp2_with fail; refine hK.out _ _ ?_ (fun hHeld => ?_))
          · (try dsimp only); exact ⟨hX.cells, hY.cells⟩
          clear hK K
          try simp only [Act.put, List.setIfInBounds_toArray, List.set_cons_zero, List.set_cons_succ]
          refine wpAnyH_ready (rs := [52]) (by as_aux_lemma => kernel_rfl) (by simp) ?_
          refine (AllReadyH.cons (o := mo52) rfl (fun K hK => ?_) AllReadyH.nil)
          unfold mo52; go_simp
          go_at_call 32
          refine (kAg 88 89 _ _ HT132.out).mono ?_
          rintro e w133 ⟨⟨b133, HB133, rfl⟩, hg⟩
          have hX := hX.bel hg
          have hY := hY.bel hg
          have HT134 := Lib.hid (listAt_bel HT134.out hg)
          have hd := hd.trans' hg
          clear hg
          first | refine hK.out _ _ ?_ (fun hHeld => ?_) | (go_wp2_with fail; refine hK.out _ _ ?_ (fun hHeld => ?_))
          · (try dsimp only); exact ⟨hX.cells, hY.cells⟩
          clear hK K
          try simp only [Act.put, List.setIfInBounds_toArray, List.set_cons_zero, List.set_cons_succ]
          refine wpAnyH_ready (rs := [54]) (by as_aux_lemma => kernel_rfl) (by simp) ?_
          refine (AllReadyH.cons (o := mo54) rfl (fun K hK => ?_) AllReadyH.nil)
          unfold mo54; go_simp
          go_at_call 32
          refine (kAg 90 90 _ _ HT134.out).mono ?_
          rintro e w135 ⟨⟨b135, HB135, rfl⟩, hg⟩
          have hX := hX.bel hg
          have hY := hY.bel hg
          have hd := hd.trans' hg
          clear hg
          first | refine hK.out _ _ ?_ (fun hHeld => ?_) | (go_wp2_with fail; refine hK.out _ _ ?_ (fun hHeld => ?_))
          · (try dsimp only); exact ⟨hX.cells, hY.cells⟩
          clear hK K
          try simp only [Act.put, List.setIfInBounds_toArray, List.set_cons_zero, List.set_cons_succ]
          refine wpAnyH_ready (rs := [55]) (by as_aux_lemma => kernel_rfl) (by simp) ?_
          refine (AllReadyH.cons (o := mo55) rfl (fun K hK => ?_) AllReadyH.nil)
          unfold mo55; go_simp
          go_at_call 35
          refine (under_take b133 b135 _ HB133 HB135 nm10).mono ?_
          rintro e w136 ⟨rfl, hg⟩
          have hX := hX.bel hg
          have hY := hY.bel hg
          have hd := hd.trans' hg
          clear hg
          first | refine hK.out _ _ ?_ (fun hHeld => ?_) | (go_wp2_with fail; refine hK.out _ _ ?_ (fun hHeld => ?_))
          · (try dsimp only); exact ⟨hX.cells, hY.cells⟩
          clear hK K
          try simp only [Act.put, List.setIfInBounds_toArray, List.set_cons_zero, List.set_cons_succ]
          refine tkm (v := ?_) 56 mo56 rfl (by as_aux_lemma => kernel_rfl) (by as_aux_lemma => kernel_rfl) (by as_aux_lemma => kernel_rfl) (fun _ _ _ h => h) (by rfl) hHeld ?_ ?_
          rotate_left
          · (unfold mo56; intro w hSw; (try dsimp only at hSw); go_simp)
            all_goals with_reducible rfl
          try simp only [mo56, Act.put, List.setIfInBounds_toArray, List.set_cons_zero, List.set_cons_succ]
          refine tkm (v := ?_) 57 mo57 rfl (by as_aux_lemma => kernel_rfl) (by as_aux_lemma => kernel_rfl) (by as_aux_lemma => kernel_rfl) (fun _ _ _ h => h) (by rfl) hHeld ?_ ?_
          rotate_left
          · (unfold mo57; intro w hSw; (try dsimp only at hSw); go_simp)
            all_goals with_reducible rfl
          try simp only [mo57, Act.put, List.setIfInBounds_toArray, List.set_cons_zero, List.set_cons_succ]
          refine tkm (v := ?_) 58 mo58 rfl (by as_aux_lemma => kernel_rfl) (by as_aux_lemma => kernel_rfl) (by as_aux_lemma => kernel_rfl) (fun _ _ _ h => h) (by rfl) hHeld ?_ ?_
          rotate_left
          · (unfold mo58; intro w hSw; (try dsimp only at hSw); go_simp)
            all_goals with_reducible rfl
          try simp only [mo58, Act.put, List.setIfInBounds_toArray, List.set_cons_zero, List.set_cons_succ]
          generalize w134.heap.size = z132
          generalize w129.heap.size = z134
          clear HB133 HB135
          revert w136
          revert b133
          revert b135
          revert z132
          revert z134
          exact key
        · focus
            intro z134 z132 b135 b133 w136 hX hY hd hHeld
            refine tkm (v := ?_) 59 mo59 rfl (by as_aux_lemma => kernel_rfl) (by as_aux_lemma => kernel_rfl) (by as_aux_lemma => kernel_rfl) (fun _ _ _ h => h) (by rfl) hHeld ?_ ?_
            rotate_left
            · (unfold mo59; intro w hSw; (try dsimp only at hSw); go_simp)
              all_goals with_reducible rfl
            try simp only [mo59, Act.put, List.setIfInBounds_toArray, List.set_cons_zero, List.set_cons_succ]
            refine tkm (v := ?_) 60 mo60 rfl (by as_aux_lemma => kernel_rfl) (by as_aux_lemma => kernel_rfl) (by as_aux_lemma => kernel_rfl) (fun _ _ _ h => h) (by rfl) hHeld ?_ ?_
            rotate_left
            · (unfold mo60; intro w hSw; (try dsimp only at hSw); go_simp)
              all_goals with_reducible rfl
            try simp only [mo60, Act.put, List.setIfInBounds_toArray, List.set_cons_zero, List.set_cons_succ]
            refine tkm (v := ?_) 61 mo61 rfl (by as_aux_lemma => kernel_rfl) (by as_aux_lemma => kernel_rfl) (by as_aux_lemma => kernel_rfl) (fun _ _ _ h => h) (by rfl) hHeld ?_ ?_
            rotate_left
            · (unfold mo61; intro w hSw; (try dsimp only at hSw); go_simp)
              all_goals with_reducible rfl
            try simp only [mo61, Act.put, List.setIfInBounds_toArray, List.set_cons_zero, List.set_cons_succ]
            refine tkm (v := ?_) 62 mo62 rfl (by as_aux_lemma => kernel_rfl) (by as_aux_lemma => kernel_rfl) (by as_aux_lemma => kernel_rfl) (fun _ _ _ h => h) (by rfl) hHeld ?_ ?_
            rotate_left
            · (unfold mo62; intro w hSw; (try dsimp only at hSw); go_simp)
              all_goals with_reducible rfl
            try simp only [mo62, Act.put, List.setIfInBounds_toArray, List.set_cons_zero, List.set_cons_succ]
            refine tkm (v := ?_) 65 mo65 rfl (by as_aux_lemma => kernel_rfl) (by as_aux_lemma => kernel_rfl) (by as_aux_lemma => kernel_rfl) (fun _ _ _ h => h) (by rfl) hHeld ?_ ?_
            rotate_left
            · (unfold mo65; intro w hSw; (try dsimp only at hSw); go_simp)
              all_goals with_reducible rfl
            try simp only [mo65, Act.put, List.setIfInBounds_toArray, List.set_cons_zero, List.set_cons_succ]
            refine tkm (v := ?_) 66 mo66 rfl (by as_aux_lemma => kernel_rfl) (by as_aux_lemma => kernel_rfl) (by as_aux_lemma => kernel_rfl) (fun _ _ _ h => h) (by rfl) hHeld ?_ ?_
            rotate_left
            · (unfold mo66; intro w hSw; (try dsimp only at hSw); go_simp)
              all_goals with_reducible rfl
            try simp only [mo66, Act.put, List.setIfInBounds_toArray, List.set_cons_zero, List.set_cons_succ]
            refine wpAnyH_ready (rs := [63, 67]) (by as_aux_lemma => kernel_rfl) (by simp) ?_
            refine (AllReadyH.cons (o := mo63) rfl (fun K hK => ?_) (AllReadyH.cons (o := mo67) rfl (fun K hK => ?_) AllReadyH.nil))
            unfold mo63; go_simp
            have hg := bel_alloc w136 (.cells #[.string a3.says, .string a3.pred, .int .i64 a3.n, .bool a3.t0.v, .string a3.t0.name, .bool a3.t1.v, .string a3.t1.name, .bool a3.t2.v, .string a3.t2.name, .bool a3.t3.v, .string a3.t3.name, .string a2.says, .string a2.pred, .int .i64 a2.n, .bool a2.t0.v, .string a2.t0.name, .bool a2.t1.v, .string a2.t1.name, .bool a2.t2.v, .string a2.t2.name, .bool a2.t3.v, .string a2.t3.name, .string a3.says, .string a3.pred, .int .i64 a3.n, .bool a3.t0.v, .string a3.t0.name, .bool a3.t1.v, .string a3.t1.name, .bool a3.t2.v, .string a3.t2.name, .bool a3.t3.v, .string a3.t3.name] 43)
            have hN := SliceAt.lit EA w136 43 [a3, a2, a3] #[.string a3.says, .string a3.pred, .int .i64 a3.n, .bool a3.t0.v, .string a3.t0.name, .bool a3.t1.v, .string a3.t1.name, .bool a3.t2.v, .string a3.t2.name, .bool a3.t3.v, .string a3.t3.name, .string a2.says, .string a2.pred, .int .i64 a2.n, .bool a2.t0.v, .string a2.t0.name, .bool a2.t1.v, .string a2.t1.name, .bool a2.t2.v, .string a2.t2.name, .bool a2.t3.v, .string a2.t3.name, .string a3.says, .string a3.pred, .int .i64 a3.n, .bool a3.t0.v, .string a3.t0.name, .bool a3.t1.v, .string a3.t1.name, .bool a3.t2.v, .string a3.t2.name, .bool a3.t3.v, .string a3.t3.name] rfl
            obtain ⟨w144, hW⟩ : ∃ x, x = w136.alloc (.cells #[.string a3.says, .string a3.pred, .int .i64 a3.n, .bool a3.t0.v, .string a3.t0.name, .bool a3.t1.v, .string a3.t1.name, .bool a3.t2.v, .string a3.t2.name, .bool a3.t3.v, .string a3.t3.name, .string a2.says, .string a2.pred, .int .i64 a2.n, .bool a2.t0.v, .string a2.t0.name, .bool a2.t1.v, .string a2.t1.name, .bool a2.t2.v, .string a2.t2.name, .bool a2.t3.v, .string a2.t3.name, .string a3.says, .string a3.pred, .int .i64 a3.n, .bool a3.t0.v, .string a3.t0.name, .bool a3.t1.v, .string a3.t1.name, .bool a3.t2.v, .string a3.t2.name, .bool a3.t3.v, .string a3.t3.name] 43) := ⟨_, rfl⟩
            rw [← hW] at hg hN ⊢
            have hX := hX.bel hg
            have hY := hY.bel hg
            have hd := hd.trans' hg
            clear hg hW
            have HA144 := Lib.hid hN
            clear hN
            first | refine hK.out _ _ ?_ (fun hHeld => ?_) | (go_wp2_with fail; refine hK.out _ _ ?_ (fun hHeld => ?_))
            · (try dsimp only); exact ⟨hX.cells, hY.cells⟩
            clear hK K
            try simp only [Act.put, List.setIfInBounds_toArray, List.set_cons_zero, List.set_cons_succ]
            refine wpAnyH_ready (rs := [64, 67]) (by as_aux_lemma => kernel_rfl) (by simp) ?_
            refine (AllReadyH.cons (o := mo64) rfl (fun K hK => ?_) (AllReadyH.cons (o := mo67) rfl (fun K hK => ?_) AllReadyH.nil))
            unfold mo64; go_simp
            go_at_call 37
            refine (all_take a2 a3 HFT _ _ HA144.out).mono ?_
            rintro e w145 ⟨⟨q25, k25, HS25, rfl⟩, hg⟩
            have hX := hX.bel hg
            have hY := hY.bel hg
            have hd := hd.trans' hg
            clear hg
            first | refine hK.out _ _ ?_ (fun hHeld => ?_) | (go_wp2_with fail; refine hK.out _ _ ?_ (fun hHeld => ?_))
            · (try dsimp only); exact ⟨hX.cells, hY.cells⟩
            clear hK K
            try simp only [Act.put, List.setIfInBounds_toArray, List.set_cons_zero, List.set_cons_succ]
            refine wpAnyH_ready (rs := [67]) (by as_aux_lemma => kernel_rfl) (by simp) ?_
            refine (AllReadyH.cons (o := mo67) rfl (fun K hK => ?_) AllReadyH.nil)
            unfold mo67; go_simp
            have hg := bel_alloc w145 (.cells #[.string a3.says, .string a3.pred, .int .i64 a3.n, .bool a3.t0.v, .string a3.t0.name, .bool a3.t1.v, .string a3.t1.name, .bool a3.t2.v, .string a3.t2.name, .bool a3.t3.v, .string a3.t3.name, .string a3.says, .string a3.pred, .int .i64 a3.n, .bool a3.t0.v, .string a3.t0.name, .bool a3.t1.v, .string a3.t1.name, .bool a3.t2.v, .string a3.t2.name, .bool a3.t3.v, .string a3.t3.name] 43)
            have hN := SliceAt.lit EA w145 43 [a3, a3] #[.string a3.says, .string a3.pred, .int .i64 a3.n, .bool a3.t0.v, .string a3.t0.name, .bool a3.t1.v, .string a3.t1.name, .bool a3.t2.v, .string a3.t2.name, .bool a3.t3.v, .string a3.t3.name, .string a3.says, .string a3.pred, .int .i64 a3.n, .bool a3.t0.v, .string a3.t0.name, .bool a3.t1.v, .string a3.t1.name, .bool a3.t2.v, .string a3.t2.name, .bool a3.t3.v, .string a3.t3.name] rfl
            obtain ⟨w148, hW⟩ : ∃ x, x = w145.alloc (.cells #[.string a3.says, .string a3.pred, .int .i64 a3.n, .bool a3.t0.v, .string a3.t0.name, .bool a3.t1.v, .string a3.t1.name, .bool a3.t2.v, .string a3.t2.name, .bool a3.t3.v, .string a3.t3.name, .string a3.says, .string a3.pred, .int .i64 a3.n, .bool a3.t0.v, .string a3.t0.name, .bool a3.t1.v, .string a3.t1.name, .bool a3.t2.v, .string a3.t2.name, .bool a3.t3.v, .string a3.t3.name] 43) := ⟨_, rfl⟩
            rw [← hW] at hg hN ⊢
            have hX := hX.bel hg
            have hY := hY.bel hg
            have HS25 := Lib.hid (HS25.out.bel hg)
            have hd := hd.trans' hg
            clear hg hW
            have HA148 := Lib.hid hN
            clear hN
            first | refine hK.out _ _ ?_ (fun hHeld => ?_) | (go_wp2_with fail; refine hK.out _ _ ?_ (fun hHeld => ?_))
            · (try dsimp only); exact ⟨hX.cells, hY.cells⟩
            clear hK K
            try simp only [Act.put, List.setIfInBounds_toArray, List.set_cons_zero, List.set_cons_succ]
            refine wpAnyH_ready (rs := [68]) (by as_aux_lemma => kernel_rfl) (by simp) ?_
            refine (AllReadyH.cons (o := mo68) rfl (fun K hK => ?_) AllReadyH.nil)
            unfold mo68; go_simp
            go_at_call 36
            refine (sameA_any q25 [a3, a3] 2 k25 rfl _ 2 2 rfl _ HS25.out HA148.out (by simp)).mono ?_
            rintro e w149 ⟨rfl, hg⟩
            have hX := hX.bel hg
            have hY := hY.bel hg
            have hd := hd.trans' hg
            clear hg
            first | refine hK.out _ _ ?_ (fun hHeld => ?_) | (go_wp2_with fail; refine hK.out _ _ ?_ (fun hHeld => ?_))
            · (try dsimp only); exact ⟨hX.cells, hY.cells⟩
            clear hK K
            try simp only [Act.put, List.setIfInBounds_toArray, List.set_cons_zero, List.set_cons_succ]
            refine tkm (v := ?_) 69 mo69 rfl (by as_aux_lemma => kernel_rfl) (by as_aux_lemma => kernel_rfl) (by as_aux_lemma => kernel_rfl) (fun _ _ _ h => h) (by rfl) hHeld ?_ ?_
            rotate_left
            · (unfold mo69; intro w hSw; (try dsimp only at hSw); go_simp)
              all_goals with_reducible rfl
            try simp only [mo69, Act.put, List.setIfInBounds_toArray, List.set_cons_zero, List.set_cons_succ]
            refine tkm (v := ?_) 70 mo70 rfl (by as_aux_lemma => kernel_rfl) (by as_aux_lemma => kernel_rfl) (by as_aux_lemma => kernel_rfl) (fun _ _ _ h => h) (by rfl) hHeld ?_ ?_
            rotate_left
            · (unfold mo70; intro w hSw; (try dsimp only at hSw); go_simp)
              all_goals with_reducible rfl
            try simp only [mo70, Act.put, List.setIfInBounds_toArray, List.set_cons_zero, List.set_cons_succ]
            rotate_left
            unfold mo67; go_simp
            have hg := bel_alloc w144 (.cells #[.string a3.says, .string a3.pred, .int .i64 a3.n, .bool a3.t0.v, .string a3.t0.name, .bool a3.t1.v, .string a3.t1.name, .bool a3.t2.v, .string a3.t2.name, .bool a3.t3.v, .string a3.t3.name, .string a3.says, .string a3.pred, .int .i64 a3.n, .bool a3.t0.v, .string a3.t0.name, .bool a3.t1.v, .string a3.t1.name, .bool a3.t2.v, .string a3.t2.name, .bool a3.t3.v, .string a3.t3.name] 43)
            have hN := SliceAt.lit EA w144 43 [a3, a3] #[.string a3.says, .string a3.pred, .int .i64 a3.n, .bool a3.t0.v, .string a3.t0.name, .bool a3.t1.v, .string a3.t1.name, .bool a3.t2.v, .string a3.t2.name, .bool a3.t3.v, .string a3.t3.name, .string a3.says, .string a3.pred, .int .i64 a3.n, .bool a3.t0.v, .string a3.t0.name, .bool a3.t1.v, .string a3.t1.name, .bool a3.t2.v, .string a3.t2.name, .bool a3.t3.v, .string a3.t3.name] rfl
            obtain ⟨w148, hW⟩ : ∃ x, x = w144.alloc (.cells #[.string a3.says, .string a3.pred, .int .i64 a3.n, .bool a3.t0.v, .string a3.t0.name, .bool a3.t1.v, .string a3.t1.name, .bool a3.t2.v, .string a3.t2.name, .bool a3.t3.v, .string a3.t3.name, .string a3.says, .string a3.pred, .int .i64 a3.n, .bool a3.t0.v, .string a3.t0.name, .bool a3.t1.v, .string a3.t1.name, .bool a3.t2.v, .string a3.t2.name, .bool a3.t3.v, .string a3.t3.name] 43) := ⟨_, rfl⟩
            rw [← hW] at hg hN ⊢
            have hX := hX.bel hg
            have hY := hY.bel hg
            have HA144 := Lib.hid (HA144.out.bel hg)
            have hd := hd.trans' hg
            clear hg hW
            have HA148 := Lib.hid hN
            clear hN
            first | refine hK.out _ _ ?_ (fun hHeld => ?_) | (go_wp2_with fail; refine hK.out _ _ ?_ (fun hHeld => ?_))
            · (try dsimp only); exact ⟨hX.cells, hY.cells⟩
            clear hK K
            try simp only [Act.put, List.setIfInBounds_toArray, List.set_cons_zero, List.set_cons_succ]
            refine wpAnyH_ready (rs := [64]) (by as_aux_lemma => kernel_rfl) (by simp) ?_
            refine (AllReadyH.cons (o := mo64) rfl (fun K hK => ?_) AllReadyH.nil)
            unfold mo64; go_simp
            go_at_call 37
            refine (all_take a2 a3 HFT _ _ HA144.out).mono ?_
            rintro e w145 ⟨⟨q25, k25, HS25, rfl⟩, hg⟩
            have hX := hX.bel hg
            have hY := hY.bel hg
            have HA148 := Lib.hid (HA148.out.bel hg)
            have hd := hd.trans' hg
            clear hg
            first | refine hK.out _ _ ?_ (fun hHeld => ?_) | (go_wp2_with fail; refine hK.out _ _ ?_ (fun hHeld => ?_))
            · (try dsimp only); exact ⟨hX.cells, hY.cells⟩
            clear hK K
            try simp only [Act.put, List.setIfInBounds_toArray, List.set_cons_zero, List.set_cons_succ]
            refine wpAnyH_ready (rs := [68]) (by as_aux_lemma => kernel_rfl) (by simp) ?_
            refine (AllReadyH.cons (o := mo68) rfl (fun K hK => ?_) AllReadyH.nil)
            unfold mo68; go_simp
            go_at_call 36
            refine (sameA_any q25 [a3, a3] 2 k25 rfl _ 2 2 rfl _ HS25.out HA148.out (by simp)).mono ?_
            rintro e w149 ⟨rfl, hg⟩
            have hX := hX.bel hg
            have hY := hY.bel hg
            have hd := hd.trans' hg
            clear hg
            first | refine hK.out _ _ ?_ (fun hHeld => ?_) | (go_wp2_with fail; refine hK.out _ _ ?_ (fun hHeld => ?_))
            · (try dsimp only); exact ⟨hX.cells, hY.cells⟩
            clear hK K
            try simp only [Act.put, List.setIfInBounds_toArray, List.set_cons_zero, List.set_cons_succ]
            refine tkm (v := ?_) 69 mo69 rfl (by as_aux_lemma => kernel_rfl) (by as_aux_lemma => kernel_rfl) (by as_aux_lemma => kernel_rfl) (fun _ _ _ h => h) (by rfl) hHeld ?_ ?_
            rotate_left
            · (unfold mo69; intro w hSw; (try dsimp only at hSw); go_simp)
              all_goals with_reducible rfl
            try simp only [mo69, Act.put, List.setIfInBounds_toArray, List.set_cons_zero, List.set_cons_succ]
            refine tkm (v := ?_) 70 mo70 rfl (by as_aux_lemma => kernel_rfl) (by as_aux_lemma => kernel_rfl) (by as_aux_lemma => kernel_rfl) (fun _ _ _ h => h) (by rfl) hHeld ?_ ?_
            rotate_left
            · (unfold mo70; intro w hSw; (try dsimp only at hSw); go_simp)
              all_goals with_reducible rfl
            try simp only [mo70, Act.put, List.setIfInBounds_toArray, List.set_cons_zero, List.set_cons_succ]
            rotate_left
            unfold mo67; go_simp
            have hg := bel_alloc w136 (.cells #[.string a3.says, .string a3.pred, .int .i64 a3.n, .bool a3.t0.v, .string a3.t0.name, .bool a3.t1.v, .string a3.t1.name, .bool a3.t2.v, .string a3.t2.name, .bool a3.t3.v, .string a3.t3.name, .string a3.says, .string a3.pred, .int .i64 a3.n, .bool a3.t0.v, .string a3.t0.name, .bool a3.t1.v, .string a3.t1.name, .bool a3.t2.v, .string a3.t2.name, .bool a3.t3.v, .string a3.t3.name] 43)
            have hN := SliceAt.lit EA w136 43 [a3, a3] #[.string a3.says, .string a3.pred, .int .i64 a3.n, .bool a3.t0.v, .string a3.t0.name, .bool a3.t1.v, .string a3.t1.name, .bool a3.t2.v, .string a3.t2.name, .bool a3.t3.v, .string a3.t3.name, .string a3.says, .string a3.pred, .int .i64 a3.n, .bool a3.t0.v, .string a3.t0.name, .bool a3.t1.v, .string a3.t1.name, .bool a3.t2.v, .string a3.t2.name, .bool a3.t3.v, .string a3.t3.name] rfl
            obtain ⟨w148, hW⟩ : ∃ x, x = w136.alloc (.cells #[.string a3.says, .string a3.pred, .int .i64 a3.n, .bool a3.t0.v, .string a3.t0.name, .bool a3.t1.v, .string a3.t1.name, .bool a3.t2.v, .string a3.t2.name, .bool a3.t3.v, .string a3.t3.name, .string a3.says, .string a3.pred, .int .i64 a3.n, .bool a3.t0.v, .string a3.t0.name, .bool a3.t1.v, .string a3.t1.name, .bool a3.t2.v, .string a3.t2.name, .bool a3.t3.v, .string a3.t3.name] 43) := ⟨_, rfl⟩
            rw [← hW] at hg hN ⊢
            have hX := hX.bel hg
            have hY := hY.bel hg
            have hd := hd.trans' hg
            clear hg hW
            have HA148 := Lib.hid hN
            clear hN
            first | refine hK.out _ _ ?_ (fun hHeld => ?_) | (go_wp2_with fail; refine hK.out _ _ ?_ (fun hHeld => ?_))
            · (try dsimp only); exact ⟨hX.cells, hY.cells⟩
            clear hK K
            try simp only [Act.put, List.setIfInBounds_toArray, List.set_cons_zero, List.set_cons_succ]
            refine wpAnyH_ready (rs := [63]) (by as_aux_lemma => kernel_rfl) (by simp) ?_
            refine (AllReadyH.cons (o := mo63) rfl (fun K hK => ?_) AllReadyH.nil)
            unfold mo63; go_simp
            have hg := bel_alloc w148 (.cells #[.string a3.says, .string a3.pred, .int .i64 a3.n, .bool a3.t0.v, .string a3.t0.name, .bool a3.t1.v, .string a3.t1.name, .bool a3.t2.v, .string a3.t2.name, .bool a3.t3.v, .string a3.t3.name, .string a2.says, .string a2.pred, .int .i64 a2.n, .bool a2.t0.v, .string a2.t0.name, .bool a2.t1.v, .string a2.t1.name, .bool a2.t2.v, .string a2.t2.name, .bool a2.t3.v, .string a2.t3.name, .string a3.says, .string a3.pred, .int .i64 a3.n, .bool a3.t0.v, .string a3.t0.name, .bool a3.t1.v, .string a3.t1.name, .bool a3.t2.v, .string a3.t2.name, .bool a3.t3.v, .string a3.t3.name] 43)
            have hN := SliceAt.lit EA w148 43 [a3, a2, a3] #[.string a3.says, .string a3.pred, .int .i64 a3.n, .bool a3.t0.v, .string a3.t0.name, .bool a3.t1.v, .string a3.t1.name, .bool a3.t2.v, .string a3.t2.name, .bool a3.t3.v, .string a3.t3.name, .string a2.says, .string a2.pred, .int .i64 a2.n, .bool a2.t0.v, .string a2.t0.name, .bool a2.t1.v, .string a2.t1.name, .bool a2.t2.v, .string a2.t2.name, .bool a2.t3.v, .string a2.t3.name, .string a3.says, .string a3.pred, .int .i64 a3.n, .bool a3.t0.v, .string a3.t0.name, .bool a3.t1.v, .string a3.t1.name, .bool a3.t2.v, .string a3.t2.name, .bool a3.t3.v, .string a3.t3.name] rfl
            obtain ⟨w144, hW⟩ : ∃ x, x = w148.alloc (.cells #[.string a3.says, .string a3.pred, .int .i64 a3.n, .bool a3.t0.v, .string a3.t0.name, .bool a3.t1.v, .string a3.t1.name, .bool a3.t2.v, .string a3.t2.name, .bool a3.t3.v, .string a3.t3.name, .string a2.says, .string a2.pred, .int .i64 a2.n, .bool a2.t0.v, .string a2.t0.name, .bool a2.t1.v, .string a2.t1.name, .bool a2.t2.v, .string a2.t2.name, .bool a2.t3.v, .string a2.t3.name, .string a3.says, .string a3.pred, .int .i64 a3.n, .bool a3.t0.v, .string a3.t0.name, .bool a3.t1.v, .string a3.t1.name, .bool a3.t2.v, .string a3.t2.name, .bool a3.t3.v, .string a3.t3.name] 43) := ⟨_, rfl⟩
            rw [← hW] at hg hN ⊢
            have hX := hX.bel hg
            have hY := hY.bel hg
            have HA148 := Lib.hid (HA148.out.bel hg)
            have hd := hd.trans' hg
            clear hg hW
            have HA144 := Lib.hid hN
            clear hN
            first | refine hK.out _ _ ?_ (fun hHeld => ?_) | (go_wp2_with fail; refine hK.out _ _ ?_ (fun hHeld => ?_))
            · (try dsimp only); exact ⟨hX.cells, hY.cells⟩
            clear hK K
            try simp only [Act.put, List.setIfInBounds_toArray, List.set_cons_zero, List.set_cons_succ]
            refine wpAnyH_ready (rs := [64]) (by as_aux_lemma => kernel_rfl) (by simp) ?_
            refine (AllReadyH.cons (o := mo64) rfl (fun K hK => ?_) AllReadyH.nil)
            unfold mo64; go_simp
            go_at_call 37
            refine (all_take a2 a3 HFT _ _ HA144.out).mono ?_
            rintro e w145 ⟨⟨q25, k25, HS25, rfl⟩, hg⟩
            have hX := hX.bel hg
            have hY := hY.bel hg
            have HA148 := Lib.hid (HA148.out.bel hg)
            have hd := hd.trans' hg
            clear hg
            first | refine hK.out _ _ ?_ (fun hHeld => ?_) | (go_wp2_with fail; refine hK.out _ _ ?_ (fun hHeld => ?_))
            · (try dsimp only); exact ⟨hX.cells, hY.cells⟩
            clear hK K
            try simp only [Act.put, List.setIfInBounds_toArray, List.set_cons_zero, List.set_cons_succ]
            refine wpAnyH_ready (rs := [68]) (by as_aux_lemma => kernel_rfl) (by simp) ?_
            refine (AllReadyH.cons (o := mo68) rfl (fun K hK => ?_) AllReadyH.nil)
            unfold mo68; go_simp
            go_at_call 36
            refine (sameA_any q25 [a3, a3] 2 k25 rfl _ 2 2 rfl _ HS25.out HA148.out (by simp)).mono ?_
            rintro e w149 ⟨rfl, hg⟩
            have hX := hX.bel hg
            have hY := hY.bel hg
            have hd := hd.trans' hg
            clear hg
            first | refine hK.out _ _ ?_ (fun hHeld => ?_) | (go_wp2_with fail; refine hK.out _ _ ?_ (fun hHeld => ?_))
            · (try dsimp only); exact ⟨hX.cells, hY.cells⟩
            clear hK K
            try simp only [Act.put, List.setIfInBounds_toArray, List.set_cons_zero, List.set_cons_succ]
            refine tkm (v := ?_) 69 mo69 rfl (by as_aux_lemma => kernel_rfl) (by as_aux_lemma => kernel_rfl) (by as_aux_lemma => kernel_rfl) (fun _ _ _ h => h) (by rfl) hHeld ?_ ?_
            rotate_left
            · (unfold mo69; intro w hSw; (try dsimp only at hSw); go_simp)
              all_goals with_reducible rfl
            try simp only [mo69, Act.put, List.setIfInBounds_toArray, List.set_cons_zero, List.set_cons_succ]
            refine tkm (v := ?_) 70 mo70 rfl (by as_aux_lemma => kernel_rfl) (by as_aux_lemma => kernel_rfl) (by as_aux_lemma => kernel_rfl) (fun _ _ _ h => h) (by rfl) hHeld ?_ ?_
            rotate_left
            · (unfold mo70; intro w hSw; (try dsimp only at hSw); go_simp)
              all_goals with_reducible rfl
            try simp only [mo70, Act.put, List.setIfInBounds_toArray, List.set_cons_zero, List.set_cons_succ]
            all_goals
              refine wpAnyH_done (by kernel_rfl) ?_ _
              go_wp2
              go_ret
              exact ⟨rfl, hb.out.trans' hd⟩
end Go.Proofs.Ytlbollmmomheoaa
