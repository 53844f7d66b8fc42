/-
  The law SubstNames. No condition.
-/
import Derived.Test.YtlbollmmomheoaaSbN1
namespace Go.Proofs.Ytlbollmmomheoaa
open Go.RowKit

theorem take_s (A : Option Addr) (l : List BindD) (n ca : Nat) (hn : l.length = n) (v : ByteArray) (t : TermD) (w : World) (hL : BL w A ca l) (hl : l.length ≤ 100000) (m : List BindD) (k : Int) (h : bindD l v t = (m, k)) :
    Calls Try.prog 11 #[.slice A n ca, .string v, .agg #[.bool t.v, .string t.name]] w fun e w' => (∃ q c out, RowKit.Hid (out = m) ∧ RowKit.Hid (BL w' q c out) ∧ e = .returned (.tuple #[.slice q out.length c, .int .i64 k])) ∧ Bel w w' := by
  subst hn
  refine (Bind_any A l ca v t w hL hl).mono ?_
  rintro e w' ⟨⟨q, c, out, n, HE, HO, rfl⟩, hg⟩
  obtain ⟨h1, rfl⟩ := Prod.mk.inj (HE.out.trans h)
  exact ⟨⟨q, c, out, Lib.hid h1, Lib.hid (OwnL.slice EB HO.out), rfl⟩, hg⟩
theorem take_c (A : Option Addr) (a : List BindD) (na ca : Nat) (hna : a.length = na) (B : Option Addr) (b : List BindD) (nb cb : Nat) (hnb : b.length = nb) (w : World) (hL : BL w A ca a) (hl : a.length ≤ 100000) (hM : BL w B cb b) (hm : b.length ≤ 100000) (m : List BindD) (k : Int) (h : compD a b = (m, k)) :
    Calls Try.prog 15 #[.slice A na ca, .slice B nb cb] w fun e w' => (∃ q c out, RowKit.Hid (out = m) ∧ RowKit.Hid (BL w' q c out) ∧ e = .returned (.tuple #[.slice q out.length c, .int .i64 k])) ∧ Bel w w' := by
  subst hna hnb
  refine (Compose_any A a ca B b cb w hL hl hM hm).mono ?_
  rintro e w' ⟨⟨q, c, out, n, HE, HO, rfl⟩, hg⟩
  obtain ⟨h1, rfl⟩ := Prod.mk.inj (HE.out.trans h)
  exact ⟨⟨q, c, out, Lib.hid h1, Lib.hid (OwnL.slice EB HO.out), rfl⟩, hg⟩
theorem take_g (A : Option Addr) (l : List BindD) (n ca : Nat) (hn : l.length = n) (v : ByteArray) (w : World) (hL : BL w A ca l) (hl : l.length ≤ 1000000) (t : TermD) (is : Bool) (h : getR l v = (t, is)) :
    Calls Try.prog 16 #[.slice A n ca, .string v] w fun e w' => e = .returned (.tuple #[.agg #[.bool t.v, .string t.name], .bool is]) ∧ Bel w w' := by
  refine (Get_any A l n ca hn v w hL hl).mono ?_
  rintro e w' ⟨⟨t1, i1, HE, rfl⟩, hg⟩
  obtain ⟨rfl, rfl⟩ := Prod.mk.inj (HE.out.trans h)
  exact ⟨rfl, hg⟩
theorem take_t (A : Option Addr) (l : List BindD) (n ca : Nat) (hn : l.length = n) (t : TermD) (w : World) (hL : BL w A ca l) (hl : l.length ≤ 1000000) (u : TermD) (h : subT l t = u) :
    Calls Try.prog 18 #[.slice A n ca, .agg #[.bool t.v, .string t.name]] w fun e w' => e = .returned (.agg #[.bool u.v, .string u.name]) ∧ Bel w w' := by
  subst hn
  refine (Term_any A l ca t w hL hl).mono ?_
  rintro e w' ⟨⟨u1, HE, rfl⟩, hg⟩
  obtain rfl : u1 = u := HE.out.trans h
  exact ⟨rfl, hg⟩
theorem take_r (A : Option Addr) (l : List BindD) (n ca : Nat) (hn : l.length = n) (V : Option Addr) (vs : List ByteArray) (nv cv : Nat) (hnv : vs.length = nv) (w : World) (hL : BL w A ca l) (hl : l.length ≤ 20) (hV : SI w V vs) (hv : vs.length ≤ 20) (m : List BindD) (h : restD l vs = m) :
    Calls Try.prog 19 #[.slice A n ca, .slice V nv cv] w fun e w' => (∃ q c out, RowKit.Hid (out = m) ∧ RowKit.Hid (BL w' q c out) ∧ e = .returned (.slice q out.length c)) ∧ Bel w w' := by
  refine (Restrict_own A l n ca hn V vs nv cv hnv w hL hl hV hv).mono ?_
  rintro e w' ⟨⟨q, c, out, HE, HO, rfl⟩, hg⟩
  exact ⟨⟨q, c, out, Lib.hid (HE.out.trans h), Lib.hid (OwnL.slice EB HO.out), rfl⟩, hg⟩
theorem take_k (A : Option Addr) (l : List BindD) (n ca : Nat) (hn : l.length = n) (w : World) (hL : BL w A ca l) (hl : l.length ≤ 1000000) (k : Int) (h : errB l = k) :
    Calls Try.prog 20 #[.slice A n ca] w fun e w' => e = .returned (.int .i64 k) ∧ Bel w w' := by
  subst hn
  have := Check_any A l ca w hL hl
  rwa [h] at this
theorem tkn {P : Program} {ops : Array Oper} {Q : Exit → Act → World → Prop} {md : Region.Mode} {S : World → Prop} (i : Nat) (oi : Oper) {v : Value} {fuel : Nat} {listed : Array Bool} {a : Act} {w : World} (hi : ops[i]? = some oi)
    (hs : Region.noSelect ops = true) (hf : Region.free md ops listed i = true) (hr : (Region.ready md ops listed).contains i = true)
    (hQ : ∀ c a w, Q (.panic c) (a.put oi.dst v) w → Q (.panic c) a w) (hw : Region.wanted oi (yielded ops a.tmps) = true) (hS : S w)
    (hy : ∀ w, S w → (execOp a.eval oi).run P w = .ok (.value v) w)
    (h : wpAnyH P md ops Q S fuel (listed.setIfInBounds i true) (a.put oi.dst v) w) : wpAnyH P md ops Q S (fuel + 1) listed a w :=
  wpAnyH_take hi hs hf hr hQ (Or.inl ⟨hw, hy⟩) hS h
abbrev so0 : Oper := { dst := some 89, op := Go.Op.move (Go.Operand.tmp 2), type := 24, pos := "law.go:38", after := #[], guard := none }
abbrev so1 : Oper := { dst := some 90, op := Go.Op.binOp Go.BinOp.eql 24 (Go.Operand.tmp 89) (Go.Operand.const (Go.Value.int Go.IntKind.i64 0)) 24, type := 4, pos := "law.go:38", after := #[{ on := 0, ground := Go.Ground.data }], guard := none }
abbrev so2 : Oper := { dst := some 91, op := Go.Op.move (Go.Operand.tmp 90), type := 4, pos := "law.go:38", after := #[{ on := 1, ground := Go.Ground.data }], guard := none }
abbrev so3 : Oper := { dst := some 92, op := Go.Op.move (Go.Operand.tmp 1), type := 23, pos := "law.go:38", after := #[{ on := 2, ground := Go.Ground.guard }], guard := some (2, true) }
abbrev so4 : Oper := { dst := some 93, op := Go.Op.move (Go.Operand.tmp 3), type := 23, pos := "law.go:38", after := #[{ on := 2, ground := Go.Ground.guard }], guard := some (2, true) }
abbrev so5 : Oper := { dst := some 94, op := Go.Op.call { callee := Go.Callee.value (Go.Operand.func 17), args := #[Go.Operand.tmp 92, Go.Operand.tmp 93], argTypes := #[23, 23] }, type := 4, pos := "law.go:38", after := #[{ on := 3, ground := Go.Ground.data }, { on := 4, ground := Go.Ground.data }, { on := 2, ground := Go.Ground.chain }, { on := 2, ground := Go.Ground.guard }], guard := some (2, true) }
abbrev so6 : Oper := { dst := some 95, op := Go.Op.pick (Go.Operand.tmp 91) (Go.Operand.tmp 94) (Go.Operand.const (Go.Value.bool false)), type := 4, pos := "law.go:38", after := #[{ on := 2, ground := Go.Ground.data }, { on := 5, ground := Go.Ground.data }], guard := none }
abbrev so7 : Oper := { dst := some 96, op := Go.Op.move (Go.Operand.tmp 95), type := 4, pos := "law.go:38", after := #[{ on := 6, ground := Go.Ground.data }, { on := 5, ground := Go.Ground.chain }], guard := none }
abbrev so8 : Oper := { dst := some 97, op := Go.Op.move (Go.Operand.tmp 5), type := 24, pos := "law.go:38", after := #[{ on := 7, ground := Go.Ground.guard }], guard := some (7, true) }
abbrev so9 : Oper := { dst := some 98, op := Go.Op.binOp Go.BinOp.eql 24 (Go.Operand.tmp 97) (Go.Operand.const (Go.Value.int Go.IntKind.i64 5)) 24, type := 4, pos := "law.go:38", after := #[{ on := 8, ground := Go.Ground.data }, { on := 7, ground := Go.Ground.guard }], guard := some (7, true) }
abbrev so10 : Oper := { dst := some 99, op := Go.Op.pick (Go.Operand.tmp 96) (Go.Operand.tmp 98) (Go.Operand.const (Go.Value.bool false)), type := 4, pos := "law.go:38", after := #[{ on := 7, ground := Go.Ground.data }, { on := 9, ground := Go.Ground.data }], guard := none }
abbrev so11 : Oper := { dst := some 100, op := Go.Op.move (Go.Operand.tmp 99), type := 4, pos := "law.go:38", after := #[{ on := 10, ground := Go.Ground.data }, { on := 7, ground := Go.Ground.chain }], guard := none }
abbrev so12 : Oper := { dst := some 101, op := Go.Op.move (Go.Operand.tmp 7), type := 24, pos := "law.go:38", after := #[{ on := 11, ground := Go.Ground.guard }], guard := some (11, true) }
abbrev so13 : Oper := { dst := some 102, op := Go.Op.binOp Go.BinOp.eql 24 (Go.Operand.tmp 101) (Go.Operand.const (Go.Value.int Go.IntKind.i64 2)) 24, type := 4, pos := "law.go:38", after := #[{ on := 12, ground := Go.Ground.data }, { on := 11, ground := Go.Ground.guard }], guard := some (11, true) }
abbrev so14 : Oper := { dst := some 103, op := Go.Op.pick (Go.Operand.tmp 100) (Go.Operand.tmp 102) (Go.Operand.const (Go.Value.bool false)), type := 4, pos := "law.go:38", after := #[{ on := 11, ground := Go.Ground.data }, { on := 13, ground := Go.Ground.data }], guard := none }
abbrev so15 : Oper := { dst := some 104, op := Go.Op.move (Go.Operand.tmp 103), type := 4, pos := "law.go:38", after := #[{ on := 14, ground := Go.Ground.data }, { on := 11, ground := Go.Ground.chain }], guard := none }
abbrev so16 : Oper := { dst := some 105, op := Go.Op.move (Go.Operand.tmp 9), type := 24, pos := "law.go:38", after := #[{ on := 15, ground := Go.Ground.guard }], guard := some (15, true) }
abbrev so17 : Oper := { dst := some 106, op := Go.Op.binOp Go.BinOp.eql 24 (Go.Operand.tmp 105) (Go.Operand.const (Go.Value.int Go.IntKind.i64 2)) 24, type := 4, pos := "law.go:38", after := #[{ on := 16, ground := Go.Ground.data }, { on := 15, ground := Go.Ground.guard }], guard := some (15, true) }
abbrev so18 : Oper := { dst := some 107, op := Go.Op.pick (Go.Operand.tmp 104) (Go.Operand.tmp 106) (Go.Operand.const (Go.Value.bool false)), type := 4, pos := "law.go:38", after := #[{ on := 15, ground := Go.Ground.data }, { on := 17, ground := Go.Ground.data }], guard := none }
abbrev so19 : Oper := { dst := some 108, op := Go.Op.move (Go.Operand.tmp 107), type := 4, pos := "law.go:38", after := #[{ on := 18, ground := Go.Ground.data }, { on := 15, ground := Go.Ground.chain }], guard := none }
abbrev so20 : Oper := { dst := some 109, op := Go.Op.move (Go.Operand.tmp 11), type := 24, pos := "law.go:38", after := #[{ on := 19, ground := Go.Ground.guard }], guard := some (19, true) }
abbrev so21 : Oper := { dst := some 110, op := Go.Op.binOp Go.BinOp.eql 24 (Go.Operand.tmp 109) (Go.Operand.const (Go.Value.int Go.IntKind.i64 15)) 24, type := 4, pos := "law.go:38", after := #[{ on := 20, ground := Go.Ground.data }, { on := 19, ground := Go.Ground.guard }], guard := some (19, true) }
abbrev so22 : Oper := { dst := some 111, op := Go.Op.pick (Go.Operand.tmp 108) (Go.Operand.tmp 110) (Go.Operand.const (Go.Value.bool false)), type := 4, pos := "law.go:38", after := #[{ on := 19, ground := Go.Ground.data }, { on := 21, ground := Go.Ground.data }], guard := none }
abbrev so23 : Oper := { dst := some 112, op := Go.Op.move (Go.Operand.tmp 111), type := 4, pos := "law.go:38", after := #[{ on := 22, ground := Go.Ground.data }, { on := 19, ground := Go.Ground.chain }], guard := none }
abbrev so24 : Oper := { dst := some 113, op := Go.Op.move (Go.Operand.tmp 13), type := 24, pos := "law.go:38", after := #[{ on := 23, ground := Go.Ground.guard }], guard := some (23, true) }
abbrev so25 : Oper := { dst := some 114, op := Go.Op.binOp Go.BinOp.eql 24 (Go.Operand.tmp 113) (Go.Operand.const (Go.Value.int Go.IntKind.i64 0)) 24, type := 4, pos := "law.go:38", after := #[{ on := 24, ground := Go.Ground.data }, { on := 23, ground := Go.Ground.guard }], guard := some (23, true) }
abbrev so26 : Oper := { dst := some 115, op := Go.Op.pick (Go.Operand.tmp 112) (Go.Operand.tmp 114) (Go.Operand.const (Go.Value.bool false)), type := 4, pos := "law.go:38", after := #[{ on := 23, ground := Go.Ground.data }, { on := 25, ground := Go.Ground.data }], guard := none }
abbrev so27 : Oper := { dst := some 116, op := Go.Op.move (Go.Operand.tmp 115), type := 4, pos := "law.go:38", after := #[{ on := 26, ground := Go.Ground.data }, { on := 23, ground := Go.Ground.chain }], guard := none }
abbrev so28 : Oper := { dst := some 117, op := Go.Op.move (Go.Operand.tmp 12), type := 23, pos := "law.go:38", after := #[{ on := 27, ground := Go.Ground.guard }], guard := some (27, true) }
abbrev so29 : Oper := { dst := some 118, op := Go.Op.call { callee := Go.Callee.value (Go.Operand.func 14), args := #[Go.Operand.const (Go.Value.string { data := #[88] })], argTypes := #[9] }, type := 29, pos := "law.go:38", after := #[{ on := 27, ground := Go.Ground.chain }, { on := 27, ground := Go.Ground.guard }], guard := some (27, true) }
abbrev so30 : Oper := { dst := some 119, op := Go.Op.build 32 #[(0, Go.Operand.const (Go.Value.string { data := #[89] })), (1, Go.Operand.tmp 118)], type := 32, pos := "law.go:38", after := #[{ on := 29, ground := Go.Ground.data }, { on := 27, ground := Go.Ground.guard }], guard := some (27, true) }
abbrev so31 : Oper := { dst := some 120, op := Go.Op.buildSlice 23 1 #[(0, Go.Operand.tmp 119)], type := 23, pos := "law.go:38", after := #[{ on := 30, ground := Go.Ground.data }, { on := 27, ground := Go.Ground.guard }], guard := some (27, true) }
abbrev so32 : Oper := { dst := some 121, op := Go.Op.call { callee := Go.Callee.value (Go.Operand.func 17), args := #[Go.Operand.tmp 117, Go.Operand.tmp 120], argTypes := #[23, 23] }, type := 4, pos := "law.go:38", after := #[{ on := 28, ground := Go.Ground.data }, { on := 31, ground := Go.Ground.data }, { on := 29, ground := Go.Ground.chain }, { on := 27, ground := Go.Ground.guard }], guard := some (27, true) }
abbrev so33 : Oper := { dst := some 122, op := Go.Op.pick (Go.Operand.tmp 116) (Go.Operand.tmp 121) (Go.Operand.const (Go.Value.bool false)), type := 4, pos := "law.go:38", after := #[{ on := 27, ground := Go.Ground.data }, { on := 32, ground := Go.Ground.data }], guard := none }
abbrev so34 : Oper := { dst := some 123, op := Go.Op.move (Go.Operand.tmp 122), type := 4, pos := "law.go:38", after := #[{ on := 33, ground := Go.Ground.data }, { on := 32, ground := Go.Ground.chain }], guard := none }
abbrev so35 : Oper := { dst := some 124, op := Go.Op.move (Go.Operand.tmp 15), type := 24, pos := "law.go:38", after := #[{ on := 34, ground := Go.Ground.guard }], guard := some (34, true) }
abbrev so36 : Oper := { dst := some 125, op := Go.Op.binOp Go.BinOp.eql 24 (Go.Operand.tmp 124) (Go.Operand.const (Go.Value.int Go.IntKind.i64 0)) 24, type := 4, pos := "law.go:38", after := #[{ on := 35, ground := Go.Ground.data }, { on := 34, ground := Go.Ground.guard }], guard := some (34, true) }
abbrev so37 : Oper := { dst := some 126, op := Go.Op.pick (Go.Operand.tmp 123) (Go.Operand.tmp 125) (Go.Operand.const (Go.Value.bool false)), type := 4, pos := "law.go:38", after := #[{ on := 34, ground := Go.Ground.data }, { on := 36, ground := Go.Ground.data }], guard := none }
abbrev so38 : Oper := { dst := some 127, op := Go.Op.move (Go.Operand.tmp 126), type := 4, pos := "law.go:38", after := #[{ on := 37, ground := Go.Ground.data }, { on := 34, ground := Go.Ground.chain }], guard := none }
abbrev so39 : Oper := { dst := some 128, op := Go.Op.move (Go.Operand.tmp 14), type := 23, pos := "law.go:38", after := #[{ on := 38, ground := Go.Ground.guard }], guard := some (38, true) }
abbrev so40 : Oper := { dst := some 129, op := Go.Op.move (Go.Operand.tmp 3), type := 23, pos := "law.go:38", after := #[{ on := 38, ground := Go.Ground.guard }], guard := some (38, true) }
abbrev so41 : Oper := { dst := some 130, op := Go.Op.call { callee := Go.Callee.value (Go.Operand.func 17), args := #[Go.Operand.tmp 128, Go.Operand.tmp 129], argTypes := #[23, 23] }, type := 4, pos := "law.go:38", after := #[{ on := 39, ground := Go.Ground.data }, { on := 40, ground := Go.Ground.data }, { on := 38, ground := Go.Ground.chain }, { on := 38, ground := Go.Ground.guard }], guard := some (38, true) }
abbrev so42 : Oper := { dst := some 131, op := Go.Op.pick (Go.Operand.tmp 127) (Go.Operand.tmp 130) (Go.Operand.const (Go.Value.bool false)), type := 4, pos := "law.go:38", after := #[{ on := 38, ground := Go.Ground.data }, { on := 41, ground := Go.Ground.data }], guard := none }
abbrev so43 : Oper := { dst := some 132, op := Go.Op.move (Go.Operand.tmp 131), type := 4, pos := "law.go:38", after := #[{ on := 42, ground := Go.Ground.data }, { on := 41, ground := Go.Ground.chain }], guard := none }
abbrev so44 : Oper := { dst := some 133, op := Go.Op.move (Go.Operand.tmp 17), type := 4, pos := "law.go:38", after := #[{ on := 43, ground := Go.Ground.guard }], guard := some (43, true) }
abbrev so45 : Oper := { dst := some 134, op := Go.Op.pick (Go.Operand.tmp 132) (Go.Operand.tmp 133) (Go.Operand.const (Go.Value.bool false)), type := 4, pos := "law.go:38", after := #[{ on := 43, ground := Go.Ground.data }, { on := 44, ground := Go.Ground.data }], guard := none }
abbrev so46 : Oper := { dst := some 135, op := Go.Op.move (Go.Operand.tmp 134), type := 4, pos := "law.go:38", after := #[{ on := 45, ground := Go.Ground.data }, { on := 43, ground := Go.Ground.chain }], guard := none }
abbrev so47 : Oper := { dst := some 136, op := Go.Op.load 29 (Go.Operand.tmp 16), type := 29, pos := "law.go:38", after := #[{ on := 46, ground := Go.Ground.guard }], guard := some (46, true) }
abbrev so48 : Oper := { dst := some 137, op := Go.Op.call { callee := Go.Callee.value (Go.Operand.func 14), args := #[Go.Operand.const (Go.Value.string { data := #[90] })], argTypes := #[9] }, type := 29, pos := "law.go:38", after := #[{ on := 46, ground := Go.Ground.chain }, { on := 46, ground := Go.Ground.guard }], guard := some (46, true) }
abbrev so49 : Oper := { dst := some 138, op := Go.Op.binOp Go.BinOp.eql 29 (Go.Operand.tmp 136) (Go.Operand.tmp 137) 29, type := 4, pos := "law.go:38", after := #[{ on := 47, ground := Go.Ground.data }, { on := 48, ground := Go.Ground.data }, { on := 46, ground := Go.Ground.guard }], guard := some (46, true) }
abbrev so50 : Oper := { dst := some 139, op := Go.Op.pick (Go.Operand.tmp 135) (Go.Operand.tmp 138) (Go.Operand.const (Go.Value.bool false)), type := 4, pos := "law.go:38", after := #[{ on := 46, ground := Go.Ground.data }, { on := 49, ground := Go.Ground.data }], guard := none }
abbrev so51 : Oper := { dst := some 140, op := Go.Op.move (Go.Operand.tmp 139), type := 4, pos := "law.go:38", after := #[{ on := 50, ground := Go.Ground.data }, { on := 48, ground := Go.Ground.chain }], guard := none }
abbrev so52 : Oper := { dst := some 141, op := Go.Op.move (Go.Operand.tmp 19), type := 4, pos := "law.go:38", after := #[{ on := 51, ground := Go.Ground.guard }], guard := some (51, true) }
abbrev so53 : Oper := { dst := some 142, op := Go.Op.unOp Go.UnOp.not 4 (Go.Operand.tmp 141), type := 4, pos := "law.go:38", after := #[{ on := 52, ground := Go.Ground.data }, { on := 51, ground := Go.Ground.guard }], guard := some (51, true) }
abbrev so54 : Oper := { dst := some 143, op := Go.Op.pick (Go.Operand.tmp 140) (Go.Operand.tmp 142) (Go.Operand.const (Go.Value.bool false)), type := 4, pos := "law.go:38", after := #[{ on := 51, ground := Go.Ground.data }, { on := 53, ground := Go.Ground.data }], guard := none }
abbrev so55 : Oper := { dst := some 144, op := Go.Op.move (Go.Operand.tmp 143), type := 4, pos := "law.go:38", after := #[{ on := 54, ground := Go.Ground.data }, { on := 51, ground := Go.Ground.chain }], guard := none }
abbrev so56 : Oper := { dst := some 145, op := Go.Op.call { callee := Go.Callee.value (Go.Operand.func 12), args := #[], argTypes := #[] }, type := 23, pos := "law.go:38", after := #[{ on := 55, ground := Go.Ground.chain }, { on := 55, ground := Go.Ground.guard }], guard := some (55, true) }
abbrev so57 : Oper := { dst := some 146, op := Go.Op.call { callee := Go.Callee.value (Go.Operand.func 13), args := #[Go.Operand.const (Go.Value.string { data := #[88] })], argTypes := #[9] }, type := 29, pos := "law.go:38", after := #[{ on := 56, ground := Go.Ground.chain }, { on := 55, ground := Go.Ground.guard }], guard := some (55, true) }
abbrev so58 : Oper := { dst := some 147, op := Go.Op.call { callee := Go.Callee.value (Go.Operand.func 18), args := #[Go.Operand.tmp 145, Go.Operand.tmp 146], argTypes := #[23, 29] }, type := 29, pos := "law.go:38", after := #[{ on := 56, ground := Go.Ground.data }, { on := 57, ground := Go.Ground.data }, { on := 57, ground := Go.Ground.chain }, { on := 55, ground := Go.Ground.guard }], guard := some (55, true) }
abbrev so59 : Oper := { dst := some 148, op := Go.Op.call { callee := Go.Callee.value (Go.Operand.func 13), args := #[Go.Operand.const (Go.Value.string { data := #[88] })], argTypes := #[9] }, type := 29, pos := "law.go:38", after := #[{ on := 58, ground := Go.Ground.chain }, { on := 55, ground := Go.Ground.guard }], guard := some (55, true) }
abbrev so60 : Oper := { dst := some 149, op := Go.Op.binOp Go.BinOp.eql 29 (Go.Operand.tmp 147) (Go.Operand.tmp 148) 29, type := 4, pos := "law.go:38", after := #[{ on := 58, ground := Go.Ground.data }, { on := 59, ground := Go.Ground.data }, { on := 55, ground := Go.Ground.guard }], guard := some (55, true) }
abbrev so61 : Oper := { dst := some 150, op := Go.Op.pick (Go.Operand.tmp 144) (Go.Operand.tmp 149) (Go.Operand.const (Go.Value.bool false)), type := 4, pos := "law.go:38", after := #[{ on := 55, ground := Go.Ground.data }, { on := 60, ground := Go.Ground.data }], guard := none }
abbrev so62 : Oper := { dst := some 151, op := Go.Op.move (Go.Operand.tmp 150), type := 4, pos := "law.go:38", after := #[{ on := 61, ground := Go.Ground.data }, { on := 59, ground := Go.Ground.chain }], guard := none }
abbrev so63 : Oper := { dst := some 152, op := Go.Op.call { callee := Go.Callee.value (Go.Operand.func 12), args := #[], argTypes := #[] }, type := 23, pos := "law.go:38", after := #[{ on := 62, ground := Go.Ground.chain }, { on := 62, ground := Go.Ground.guard }], guard := some (62, true) }
abbrev so64 : Oper := { dst := some 153, op := Go.Op.buildSlice 39 2 #[(0, Go.Operand.const (Go.Value.string { data := #[89] })), (1, Go.Operand.const (Go.Value.string { data := #[81] }))], type := 39, pos := "law.go:38", after := #[{ on := 62, ground := Go.Ground.guard }], guard := some (62, true) }
abbrev so65 : Oper := { dst := some 154, op := Go.Op.call { callee := Go.Callee.value (Go.Operand.func 19), args := #[Go.Operand.tmp 152, Go.Operand.tmp 153], argTypes := #[23, 39] }, type := 23, pos := "law.go:38", after := #[{ on := 63, ground := Go.Ground.data }, { on := 64, ground := Go.Ground.data }, { on := 63, ground := Go.Ground.chain }, { on := 62, ground := Go.Ground.guard }], guard := some (62, true) }
abbrev so66 : Oper := { dst := some 155, op := Go.Op.call { callee := Go.Callee.value (Go.Operand.func 12), args := #[], argTypes := #[] }, type := 23, pos := "law.go:38", after := #[{ on := 65, ground := Go.Ground.chain }, { on := 62, ground := Go.Ground.guard }], guard := some (62, true) }
abbrev so67 : Oper := { dst := some 156, op := Go.Op.slice 23 (Go.Operand.tmp 155) (some (Go.Operand.const (Go.Value.int Go.IntKind.i64 1))) none none, type := 23, pos := "law.go:38", after := #[{ on := 66, ground := Go.Ground.data }, { on := 62, ground := Go.Ground.guard }], guard := some (62, true) }
abbrev so68 : Oper := { dst := some 157, op := Go.Op.call { callee := Go.Callee.value (Go.Operand.func 17), args := #[Go.Operand.tmp 154, Go.Operand.tmp 156], argTypes := #[23, 23] }, type := 4, pos := "law.go:38", after := #[{ on := 65, ground := Go.Ground.data }, { on := 67, ground := Go.Ground.data }, { on := 66, ground := Go.Ground.chain }, { on := 62, ground := Go.Ground.guard }], guard := some (62, true) }
abbrev so69 : Oper := { dst := some 158, op := Go.Op.pick (Go.Operand.tmp 151) (Go.Operand.tmp 157) (Go.Operand.const (Go.Value.bool false)), type := 4, pos := "law.go:38", after := #[{ on := 62, ground := Go.Ground.data }, { on := 68, ground := Go.Ground.data }], guard := none }
abbrev so70 : Oper := { dst := some 159, op := Go.Op.move (Go.Operand.tmp 158), type := 4, pos := "law.go:38", after := #[{ on := 69, ground := Go.Ground.data }, { on := 68, ground := Go.Ground.chain }], guard := none }
abbrev so71 : Oper := { dst := some 160, op := Go.Op.call { callee := Go.Callee.value (Go.Operand.func 12), args := #[], argTypes := #[] }, type := 23, pos := "law.go:38", after := #[{ on := 70, ground := Go.Ground.chain }, { on := 70, ground := Go.Ground.guard }], guard := some (70, true) }
abbrev so72 : Oper := { dst := some 161, op := Go.Op.call { callee := Go.Callee.value (Go.Operand.func 12), args := #[], argTypes := #[] }, type := 23, pos := "law.go:38", after := #[{ on := 71, ground := Go.Ground.chain }, { on := 70, ground := Go.Ground.guard }], guard := some (70, true) }
abbrev so73 : Oper := { dst := some 162, op := Go.Op.call { callee := Go.Callee.builtin Go.Builtin.append, args := #[Go.Operand.tmp 160, Go.Operand.tmp 161], argTypes := #[23, 23] }, type := 23, pos := "law.go:38", after := #[{ on := 71, ground := Go.Ground.data }, { on := 72, ground := Go.Ground.data }, { on := 72, ground := Go.Ground.chain }, { on := 70, ground := Go.Ground.guard }], guard := some (70, true) }
abbrev so74 : Oper := { dst := some 163, op := Go.Op.call { callee := Go.Callee.value (Go.Operand.func 20), args := #[Go.Operand.tmp 162], argTypes := #[23] }, type := 24, pos := "law.go:38", after := #[{ on := 73, ground := Go.Ground.data }, { on := 73, ground := Go.Ground.chain }, { on := 70, ground := Go.Ground.guard }], guard := some (70, true) }
abbrev so75 : Oper := { dst := some 164, op := Go.Op.binOp Go.BinOp.eql 24 (Go.Operand.tmp 163) (Go.Operand.const (Go.Value.int Go.IntKind.i64 15)) 24, type := 4, pos := "law.go:38", after := #[{ on := 74, ground := Go.Ground.data }, { on := 70, ground := Go.Ground.guard }], guard := some (70, true) }
abbrev so76 : Oper := { dst := some 165, op := Go.Op.pick (Go.Operand.tmp 159) (Go.Operand.tmp 164) (Go.Operand.const (Go.Value.bool false)), type := 4, pos := "law.go:38", after := #[{ on := 70, ground := Go.Ground.data }, { on := 75, ground := Go.Ground.data }], guard := none }
abbrev so77 : Oper := { dst := some 0, op := Go.Op.assign (Go.Operand.tmp 165), type := 4, pos := "law.go:38", after := ([{ on := 76, ground := Go.Ground.data }, { on := 74, ground := Go.Ground.chain }, { on := 0, ground := Go.Ground.phase }, { on := 1, ground := Go.Ground.phase }, { on := 2, ground := Go.Ground.phase }, { on := 3, ground := Go.Ground.phase }, { on := 4, ground := Go.Ground.phase }, { on := 5, ground := Go.Ground.phase }, { on := 6, ground := Go.Ground.phase }, { on := 7, ground := Go.Ground.phase }, { on := 8, ground := Go.Ground.phase }, { on := 9, ground := Go.Ground.phase }, { on := 10, ground := Go.Ground.phase }, { on := 11, ground := Go.Ground.phase }, { on := 12, ground := Go.Ground.phase }, { on := 13, ground := Go.Ground.phase }, { on := 14, ground := Go.Ground.phase }, { on := 15, ground := Go.Ground.phase }, { on := 16, ground := Go.Ground.phase }, { on := 17, ground := Go.Ground.phase }, { on := 18, ground := Go.Ground.phase }, { on := 19, ground := Go.Ground.phase }, { on := 20, ground := Go.Ground.phase }, { on := 21, ground := Go.Ground.phase }, { on := 22, ground := Go.Ground.phase }, { on := 23, ground := Go.Ground.phase }, { on := 24, ground := Go.Ground.phase }, { on := 25, ground := Go.Ground.phase }, { on := 26, ground := Go.Ground.phase }, { on := 27, ground := Go.Ground.phase }, { on := 28, ground := Go.Ground.phase }, { on := 29, ground := Go.Ground.phase }, { on := 30, ground := Go.Ground.phase }, { on := 31, ground := Go.Ground.phase }, { on := 32, ground := Go.Ground.phase }, { on := 33, ground := Go.Ground.phase }, { on := 34, ground := Go.Ground.phase }, { on := 35, ground := Go.Ground.phase }, { on := 36, ground := Go.Ground.phase }, { on := 37, ground := Go.Ground.phase }, { on := 38, ground := Go.Ground.phase }, { on := 39, ground := Go.Ground.phase }, { on := 40, ground := Go.Ground.phase }, { on := 41, ground := Go.Ground.phase }, { on := 42, ground := Go.Ground.phase }, { on := 43, ground := Go.Ground.phase }, { on := 44, ground := Go.Ground.phase }, { on := 45, ground := Go.Ground.phase }, { on := 46, ground := Go.Ground.phase }, { on := 47, ground := Go.Ground.phase }, { on := 48, ground := Go.Ground.phase }, { on := 49, ground := Go.Ground.phase }, { on := 50, ground := Go.Ground.phase }, { on := 51, ground := Go.Ground.phase }, { on := 52, ground := Go.Ground.phase }, { on := 53, ground := Go.Ground.phase }, { on := 54, ground := Go.Ground.phase }, { on := 55, ground := Go.Ground.phase }, { on := 56, ground := Go.Ground.phase }, { on := 57, ground := Go.Ground.phase }, { on := 58, ground := Go.Ground.phase }, { on := 59, ground := Go.Ground.phase }, { on := 60, ground := Go.Ground.phase }, { on := 61, ground := Go.Ground.phase }, { on := 62, ground := Go.Ground.phase }, { on := 63, ground := Go.Ground.phase }, { on := 64, ground := Go.Ground.phase }, { on := 65, ground := Go.Ground.phase }, { on := 66, ground := Go.Ground.phase }, { on := 67, ground := Go.Ground.phase }, { on := 68, ground := Go.Ground.phase }, { on := 69, ground := Go.Ground.phase }, { on := 70, ground := Go.Ground.phase }, { on := 71, ground := Go.Ground.phase }, { on := 72, ground := Go.Ground.phase }, { on := 73, ground := Go.Ground.phase }, { on := 74, ground := Go.Ground.phase }, { on := 75, ground := Go.Ground.phase }, { on := 76, ground := Go.Ground.phase }]).toArray, guard := none }
set_option maxRecDepth 20000 in
set_option maxHeartbeats 64000000 in
theorem lawSubstNames (w : World) : Calls Try.prog 3 #[] w fun e w' => e = .returned (.bool true) ∧ Bel w w' := by
  have hb : Bel w w := Below.refl _ _
  have hqt := eql_term
  go_enter Try.func3, Try.ntmps3
  go_wp2_with (fail)
  refine (lives4_any _).mono ?_
  rintro e w1 ⟨rfl, hg⟩
  have hb := hb.trans' hg
  clear hg
  go_wp2_with (fail)
  refine (two_any _).mono ?_
  rintro e w2 ⟨⟨gHA, HA, rfl⟩, hg⟩
  have hb := hb.trans' hg
  clear hg
  go_wp2_with (fail)
  refine (c_any ⟨#[99]⟩ _).mono ?_
  rintro e w3 ⟨rfl, hg⟩
  have HA := Lib.hid (HA.out.bel hg)
  have hb := hb.trans' hg
  clear hg
  go_wp2_with (fail)
  refine (take_s _ twoD 2 2 rfl ⟨#[90]⟩ ⟨false, ⟨#[99]⟩⟩ _ HA.out (by decide) wantD 0 ex1).mono ?_
  rintro e w4 ⟨⟨qL, kL, oL, EL, HL, rfl⟩, hg⟩
  have hb := hb.trans' hg
  clear hg
  go_wp2_with (fail)
  refine (c_any ⟨#[98]⟩ _).mono ?_
  rintro e w5 ⟨rfl, hg⟩
  have HL := Lib.hid (HL.out.bel hg)
  have hb := hb.trans' hg
  clear hg
  go_wp2_with (fail)
  refine (c_any ⟨#[99]⟩ _).mono ?_
  rintro e w6 ⟨rfl, hg⟩
  have HL := Lib.hid (HL.out.bel hg)
  have hb := hb.trans' hg
  clear hg
  go_wp2_with (fail)
  refine (c_any ⟨#[99]⟩ _).mono ?_
  rintro e w7 ⟨rfl, hg⟩
  have HL := Lib.hid (HL.out.bel hg)
  have hb := hb.trans' hg
  clear hg
  go_wp2_with (fail)
  refine (two_any _).mono ?_
  rintro e w8 ⟨⟨gHA, HA, rfl⟩, hg⟩
  have HW := Lib.hid ((SliceAt.lit EB w7 32 [(⟨⟨#[88]⟩, ⟨false, ⟨#[98]⟩⟩⟩ : BindD), (⟨⟨#[89]⟩, ⟨false, ⟨#[99]⟩⟩⟩ : BindD), (⟨⟨#[90]⟩, ⟨false, ⟨#[99]⟩⟩⟩ : BindD)] #[.string ⟨#[88]⟩, .bool false, .string ⟨#[98]⟩, .string ⟨#[89]⟩, .bool false, .string ⟨#[99]⟩, .string ⟨#[90]⟩, .bool false, .string ⟨#[99]⟩] rfl).bel hg)
  have hg := (bel_alloc w7 _).trans' hg
  have HL := Lib.hid (HL.out.bel hg)
  have hb := hb.trans' hg
  clear hg
  go_wp2_with (fail)
  refine (c_any ⟨#[99]⟩ _).mono ?_
  rintro e w9 ⟨rfl, hg⟩
  have HL := Lib.hid (HL.out.bel hg)
  have HW := Lib.hid (HW.out.bel hg)
  have HA := Lib.hid (HA.out.bel hg)
  have hb := hb.trans' hg
  clear hg
  go_wp2_with (fail)
  refine (take_s _ twoD 2 2 rfl ⟨#[88]⟩ ⟨false, ⟨#[99]⟩⟩ _ HA.out (by decide) [] 5 ex2).mono ?_
  rintro e w10 ⟨⟨q2, k2, o2, E2, _, rfl⟩, hg⟩
  have HL := Lib.hid (HL.out.bel hg)
  have HW := Lib.hid (HW.out.bel hg)
  have hb := hb.trans' hg
  clear hg
  go_wp2_with (fail)
  refine (two_any _).mono ?_
  rintro e w11 ⟨⟨gHA, HA, rfl⟩, hg⟩
  have HL := Lib.hid (HL.out.bel hg)
  have HW := Lib.hid (HW.out.bel hg)
  have hb := hb.trans' hg
  clear hg
  go_wp2_with (fail)
  refine (v_any ⟨#[89]⟩ _).mono ?_
  rintro e w12 ⟨rfl, hg⟩
  have HL := Lib.hid (HL.out.bel hg)
  have HW := Lib.hid (HW.out.bel hg)
  have HA := Lib.hid (HA.out.bel hg)
  have hb := hb.trans' hg
  clear hg
  go_wp2_with (fail)
  refine (take_s _ twoD 2 2 rfl ⟨#[90]⟩ ⟨true, ⟨#[89]⟩⟩ _ HA.out (by decide) [] 2 ex3).mono ?_
  rintro e w13 ⟨⟨q3, k3, o3, E3, _, rfl⟩, hg⟩
  have HL := Lib.hid (HL.out.bel hg)
  have HW := Lib.hid (HW.out.bel hg)
  have hb := hb.trans' hg
  clear hg
  go_wp2_with (fail)
  refine (two_any _).mono ?_
  rintro e w14 ⟨⟨gHA, HA, rfl⟩, hg⟩
  have HL := Lib.hid (HL.out.bel hg)
  have HW := Lib.hid (HW.out.bel hg)
  have hb := hb.trans' hg
  clear hg
  go_wp2_with (fail)
  refine (c_any ⟨#[99]⟩ _).mono ?_
  rintro e w15 ⟨rfl, hg⟩
  have HL := Lib.hid (HL.out.bel hg)
  have HW := Lib.hid (HW.out.bel hg)
  have HA := Lib.hid (HA.out.bel hg)
  have hb := hb.trans' hg
  clear hg
  go_wp2_with (fail)
  refine (take_s _ twoD 2 2 rfl ⟨#[]⟩ ⟨false, ⟨#[99]⟩⟩ _ HA.out (by decide) [] 2 ex4).mono ?_
  rintro e w16 ⟨⟨q4, k4, o4, E4, _, rfl⟩, hg⟩
  have HL := Lib.hid (HL.out.bel hg)
  have HW := Lib.hid (HW.out.bel hg)
  have hb := hb.trans' hg
  clear hg
  go_wp2_with (fail)
  refine (v_any ⟨#[88]⟩ _).mono ?_
  rintro e w17 ⟨rfl, hg⟩
  have HL := Lib.hid (HL.out.bel hg)
  have HW := Lib.hid (HW.out.bel hg)
  have hb := hb.trans' hg
  clear hg
  go_wp2_with (fail)
  refine (c_any ⟨#[99]⟩ _).mono ?_
  rintro e w18 ⟨rfl, hg⟩
  have HS := Lib.hid ((SliceAt.lit EB w17 32 [(⟨⟨#[88]⟩, ⟨true, ⟨#[88]⟩⟩⟩ : BindD)] #[.string ⟨#[88]⟩, .bool true, .string ⟨#[88]⟩] rfl).bel hg)
  have hg := (bel_alloc w17 _).trans' hg
  have HL := Lib.hid (HL.out.bel hg)
  have HW := Lib.hid (HW.out.bel hg)
  have hb := hb.trans' hg
  clear hg
  go_wp2_with (fail)
  refine (take_s _ [(⟨⟨#[88]⟩, ⟨true, ⟨#[88]⟩⟩⟩ : BindD)] 1 1 rfl ⟨#[89]⟩ ⟨false, ⟨#[99]⟩⟩ _ HS.out (by decide) [] 15 ex5).mono ?_
  rintro e w19 ⟨⟨q5, k5, o5, E5, _, rfl⟩, hg⟩
  have HL := Lib.hid (HL.out.bel hg)
  have HW := Lib.hid (HW.out.bel hg)
  have hb := hb.trans' hg
  clear hg
  go_wp2_with (fail)
  refine (v_any ⟨#[89]⟩ _).mono ?_
  rintro e w20 ⟨rfl, hg⟩
  have HL := Lib.hid (HL.out.bel hg)
  have HW := Lib.hid (HW.out.bel hg)
  have hb := hb.trans' hg
  clear hg
  go_wp2_with (fail)
  refine (v_any ⟨#[88]⟩ _).mono ?_
  rintro e w21 ⟨rfl, hg⟩
  have HP := Lib.hid ((SliceAt.lit EB w20 32 [(⟨⟨#[88]⟩, ⟨true, ⟨#[89]⟩⟩⟩ : BindD)] #[.string ⟨#[88]⟩, .bool true, .string ⟨#[89]⟩] rfl).bel hg)
  have hg := (bel_alloc w20 _).trans' hg
  have HL := Lib.hid (HL.out.bel hg)
  have HW := Lib.hid (HW.out.bel hg)
  have hb := hb.trans' hg
  clear hg
  go_wp2_with (fail)
  refine (take_c _ [(⟨⟨#[88]⟩, ⟨true, ⟨#[89]⟩⟩⟩ : BindD)] 1 1 rfl _ [(⟨⟨#[89]⟩, ⟨true, ⟨#[88]⟩⟩⟩ : BindD)] 1 1 rfl _ (HP.out.bel (bel_alloc w21 _)) (by decide) (SliceAt.lit EB w21 32 [(⟨⟨#[89]⟩, ⟨true, ⟨#[88]⟩⟩⟩ : BindD)] #[.string ⟨#[89]⟩, .bool true, .string ⟨#[88]⟩] rfl) (by decide) [(⟨⟨#[89]⟩, ⟨true, ⟨#[88]⟩⟩⟩ : BindD)] 0 ex6).mono ?_
  rintro e w22 ⟨⟨qM, kM, oM, EM, HM, rfl⟩, hg⟩
  have HQ := Lib.hid ((SliceAt.lit EB w21 32 [(⟨⟨#[89]⟩, ⟨true, ⟨#[88]⟩⟩⟩ : BindD)] #[.string ⟨#[89]⟩, .bool true, .string ⟨#[88]⟩] rfl).bel hg)
  have hg := (bel_alloc w21 _).trans' hg
  have HL := Lib.hid (HL.out.bel hg)
  have HW := Lib.hid (HW.out.bel hg)
  have hb := hb.trans' hg
  clear hg
  go_wp2_with (fail)
  refine (two_any _).mono ?_
  rintro e w23 ⟨⟨gHA, HA, rfl⟩, hg⟩
  have HL := Lib.hid (HL.out.bel hg)
  have HW := Lib.hid (HW.out.bel hg)
  have HM := Lib.hid (HM.out.bel hg)
  have hb := hb.trans' hg
  clear hg
  go_wp2_with (fail)
  refine (c_any ⟨#[99]⟩ _).mono ?_
  rintro e w24 ⟨rfl, hg⟩
  have HL := Lib.hid (HL.out.bel hg)
  have HW := Lib.hid (HW.out.bel hg)
  have HM := Lib.hid (HM.out.bel hg)
  have HA := Lib.hid (HA.out.bel hg)
  have hb := hb.trans' hg
  clear hg
  go_wp2_with (fail)
  refine (take_c _ twoD 2 2 rfl _ [(⟨⟨#[90]⟩, ⟨false, ⟨#[99]⟩⟩⟩ : BindD)] 1 1 rfl _ (HA.out.bel (bel_alloc w24 _)) (by decide) (SliceAt.lit EB w24 32 [(⟨⟨#[90]⟩, ⟨false, ⟨#[99]⟩⟩⟩ : BindD)] #[.string ⟨#[90]⟩, .bool false, .string ⟨#[99]⟩] rfl) (by decide) wantD 0 ex7).mono ?_
  rintro e w25 ⟨⟨qN, kN, oN, EN, HN, rfl⟩, hg⟩
  have HQ := Lib.hid ((SliceAt.lit EB w24 32 [(⟨⟨#[90]⟩, ⟨false, ⟨#[99]⟩⟩⟩ : BindD)] #[.string ⟨#[90]⟩, .bool false, .string ⟨#[99]⟩] rfl).bel hg)
  have hg := (bel_alloc w24 _).trans' hg
  have HL := Lib.hid (HL.out.bel hg)
  have HW := Lib.hid (HW.out.bel hg)
  have HM := Lib.hid (HM.out.bel hg)
  have hb := hb.trans' hg
  clear hg
  go_wp2_with (fail)
  refine (two_any _).mono ?_
  rintro e w26 ⟨⟨gHA, HA, rfl⟩, hg⟩
  have HL := Lib.hid (HL.out.bel hg)
  have HW := Lib.hid (HW.out.bel hg)
  have HM := Lib.hid (HM.out.bel hg)
  have HN := Lib.hid (HN.out.bel hg)
  have hb := hb.trans' hg
  clear hg
  go_wp2_with (fail)
  refine (take_g _ twoD 2 2 rfl ⟨#[89]⟩ _ HA.out (by decide) ⟨true, ⟨#[90]⟩⟩ true ex8).mono ?_
  rintro e w27 ⟨rfl, hg⟩
  have HL := Lib.hid (HL.out.bel hg)
  have HW := Lib.hid (HW.out.bel hg)
  have HM := Lib.hid (HM.out.bel hg)
  have HN := Lib.hid (HN.out.bel hg)
  have hb := hb.trans' hg
  clear hg
  go_wp2_with (fail)
  refine (two_any _).mono ?_
  rintro e w28 ⟨⟨gHA, HA, rfl⟩, hg⟩
  have HT := Lib.hid ((TermAt.new w27 ⟨true, ⟨#[90]⟩⟩).bel hg)
  have hg := (bel_alloc w27 _).trans' hg
  have HL := Lib.hid (HL.out.bel hg)
  have HW := Lib.hid (HW.out.bel hg)
  have HM := Lib.hid (HM.out.bel hg)
  have HN := Lib.hid (HN.out.bel hg)
  have hb := hb.trans' hg
  clear hg
  go_wp2_with (fail)
  refine (take_g _ twoD 2 2 rfl ⟨#[90]⟩ _ HA.out (by decide) zeroT false ex9).mono ?_
  rintro e w29 ⟨rfl, hg⟩
  have HL := Lib.hid (HL.out.bel hg)
  have HW := Lib.hid (HW.out.bel hg)
  have HM := Lib.hid (HM.out.bel hg)
  have HN := Lib.hid (HN.out.bel hg)
  have HT := Lib.hid (HT.out.bel hg)
  have hb := hb.trans' hg
  clear hg
  obtain ⟨wZ, hwZ⟩ : ∃ wZ, wZ = w29.alloc (.cells #[.bool false, .string ⟨#[]⟩] 29) := ⟨_, rfl⟩
  have hgZ : Bel w29 wZ := by rw [hwZ]; exact bel_alloc _ _
  go_wp2_with (fail)
  simp only [zeroT]
  rw [← hwZ]
  have HL := Lib.hid (HL.out.bel hgZ)
  have HW := Lib.hid (HW.out.bel hgZ)
  have HM := Lib.hid (HM.out.bel hgZ)
  have HN := Lib.hid (HN.out.bel hgZ)
  have HT := Lib.hid (HT.out.bel hgZ)
  have hb := hb.trans' hgZ
  clear hwZ hgZ
  have hS1 := Lib.hid (fun W (hg : Bel wZ W) => sameB2_any qL oL oL.length kL rfl (some ⟨w7.heap.size, 0, none⟩) wantD 3 3 EL.out.symm (by rw [EL.out]; rfl) W (HL.out.bel hg) (HW.out.bel hg) (by rw [EL.out]; decide))
  have hS3 := Lib.hid (fun W (hg : Bel wZ W) => sameB2_any qN oN oN.length kN rfl (some ⟨w7.heap.size, 0, none⟩) wantD 3 3 EN.out.symm (by rw [EN.out]; rfl) W (HN.out.bel hg) (HW.out.bel hg) (by rw [EN.out]; decide))
  have HMW := Lib.hid (fun W (hg : Bel wZ W) => HM.out.bel hg)
  have hqe : eqT ⟨true, ⟨#[90]⟩⟩ ⟨true, ⟨#[90]⟩⟩ = true := (eqT_iff _ _).2 rfl
  have hqf : eqT ⟨false, ⟨#[88]⟩⟩ ⟨false, ⟨#[88]⟩⟩ = true := (eqT_iff _ _).2 rfl
  obtain ⟨y0, y1⟩ := HT.out.cells
  simp only at y0 y1
  have hd : Bel wZ wZ.drew := bel_drew' (Below.refl _ _)
  have hT : TermAt wZ.drew w27.heap.size ⟨true, ⟨#[90]⟩⟩ := HT.out
  clear HL HW HM HN HT
  simp only [List.append]
  refine wp_region_held_drew (S := fun w' => w'.cell? ⟨w27.heap.size, 0, none⟩ = some (.bool true) ∧ w'.cell? ⟨w27.heap.size, 1, none⟩ = some (.string ⟨#[90]⟩)) (by kernel_rfl) hT.cells (fun hHeld => ?_)
  obtain ⟨wD, hD⟩ : ∃ x, x = wZ.drew := ⟨_, rfl⟩
  rw [← hD] at hd hT hHeld ⊢
  clear hD
  refine tkn (v := ?_) 0 so0 rfl (by as_aux_lemma => kernel_rfl) (by as_aux_lemma => kernel_rfl) (by as_aux_lemma => kernel_rfl) (fun _ _ _ h => h) (by rfl) hHeld ?_ ?_
  rotate_left
  · (unfold so0; intro w hSw; (try dsimp only at hSw); go_simp)
    all_goals with_reducible rfl
  try simp only [Act.put, List.setIfInBounds_toArray, List.set_cons_zero, List.set_cons_succ]
  refine tkn (v := ?_) 1 so1 rfl (by as_aux_lemma => kernel_rfl) (by as_aux_lemma => kernel_rfl) (by as_aux_lemma => kernel_rfl) (fun _ _ _ h => h) (by rfl) hHeld ?_ ?_
  rotate_left
  · (unfold so1; intro w hSw; (try dsimp only at hSw); go_simp)
    all_goals with_reducible rfl
  try simp only [Act.put, List.setIfInBounds_toArray, List.set_cons_zero, List.set_cons_succ]
  refine tkn (v := ?_) 2 so2 rfl (by as_aux_lemma => kernel_rfl) (by as_aux_lemma => kernel_rfl) (by as_aux_lemma => kernel_rfl) (fun _ _ _ h => h) (by rfl) hHeld ?_ ?_
  rotate_left
  · (unfold so2; intro w hSw; (try dsimp only at hSw); go_simp)
    all_goals with_reducible rfl
  try simp only [Act.put, List.setIfInBounds_toArray, List.set_cons_zero, List.set_cons_succ]
  refine tkn (v := ?_) 3 so3 rfl (by as_aux_lemma => kernel_rfl) (by as_aux_lemma => kernel_rfl) (by as_aux_lemma => kernel_rfl) (fun _ _ _ h => h) (by rfl) hHeld ?_ ?_
  rotate_left
  · (unfold so3; intro w hSw; (try dsimp only at hSw); go_simp)
    all_goals with_reducible rfl
  try simp only [Act.put, List.setIfInBounds_toArray, List.set_cons_zero, List.set_cons_succ]
  refine tkn (v := ?_) 4 so4 rfl (by as_aux_lemma => kernel_rfl) (by as_aux_lemma => kernel_rfl) (by as_aux_lemma => kernel_rfl) (fun _ _ _ h => h) (by rfl) hHeld ?_ ?_
  rotate_left
  · (unfold so4; intro w hSw; (try dsimp only at hSw); go_simp)
    all_goals with_reducible rfl
  try simp only [Act.put, List.setIfInBounds_toArray, List.set_cons_zero, List.set_cons_succ]
  refine wpAnyH_ready (rs := [5]) (by as_aux_lemma => kernel_rfl) (by simp) ?_
  refine (AllReadyH.cons (o := so5) rfl (fun K hK => ?_) AllReadyH.nil)
  unfold so5; go_simp
  go_at_call 17
  refine (hS1.out _ hd).mono ?_
  rintro e w94 ⟨rfl, hg⟩
  have hd := hd.trans' hg
  have hT := hT.bel hg
  clear hg
  first | refine hK.out _ _ ?_ (fun hHeld => ?_) | (go_wp2_with fail; refine hK.out _ _ ?_ (fun hHeld => ?_))
  · (try dsimp only); exact hT.cells
  clear hK K
  try simp only [Act.put, List.setIfInBounds_toArray, List.set_cons_zero, List.set_cons_succ]
  refine tkn (v := ?_) 6 so6 rfl (by as_aux_lemma => kernel_rfl) (by as_aux_lemma => kernel_rfl) (by as_aux_lemma => kernel_rfl) (fun _ _ _ h => h) (by rfl) hHeld ?_ ?_
  rotate_left
  · (unfold so6; intro w hSw; (try dsimp only at hSw); go_simp)
    all_goals with_reducible rfl
  try simp only [Act.put, List.setIfInBounds_toArray, List.set_cons_zero, List.set_cons_succ]
  refine tkn (v := ?_) 7 so7 rfl (by as_aux_lemma => kernel_rfl) (by as_aux_lemma => kernel_rfl) (by as_aux_lemma => kernel_rfl) (fun _ _ _ h => h) (by rfl) hHeld ?_ ?_
  rotate_left
  · (unfold so7; intro w hSw; (try dsimp only at hSw); go_simp)
    all_goals with_reducible rfl
  try simp only [Act.put, List.setIfInBounds_toArray, List.set_cons_zero, List.set_cons_succ]
  refine tkn (v := ?_) 8 so8 rfl (by as_aux_lemma => kernel_rfl) (by as_aux_lemma => kernel_rfl) (by as_aux_lemma => kernel_rfl) (fun _ _ _ h => h) (by rfl) hHeld ?_ ?_
  rotate_left
  · (unfold so8; intro w hSw; (try dsimp only at hSw); go_simp)
    all_goals with_reducible rfl
  try simp only [Act.put, List.setIfInBounds_toArray, List.set_cons_zero, List.set_cons_succ]
  refine tkn (v := ?_) 9 so9 rfl (by as_aux_lemma => kernel_rfl) (by as_aux_lemma => kernel_rfl) (by as_aux_lemma => kernel_rfl) (fun _ _ _ h => h) (by rfl) hHeld ?_ ?_
  rotate_left
  · (unfold so9; intro w hSw; (try dsimp only at hSw); go_simp)
    all_goals with_reducible rfl
  try simp only [Act.put, List.setIfInBounds_toArray, List.set_cons_zero, List.set_cons_succ]
  refine tkn (v := ?_) 10 so10 rfl (by as_aux_lemma => kernel_rfl) (by as_aux_lemma => kernel_rfl) (by as_aux_lemma => kernel_rfl) (fun _ _ _ h => h) (by rfl) hHeld ?_ ?_
  rotate_left
  · (unfold so10; intro w hSw; (try dsimp only at hSw); go_simp)
    all_goals with_reducible rfl
  try simp only [Act.put, List.setIfInBounds_toArray, List.set_cons_zero, List.set_cons_succ]
  refine tkn (v := ?_) 11 so11 rfl (by as_aux_lemma => kernel_rfl) (by as_aux_lemma => kernel_rfl) (by as_aux_lemma => kernel_rfl) (fun _ _ _ h => h) (by rfl) hHeld ?_ ?_
  rotate_left
  · (unfold so11; intro w hSw; (try dsimp only at hSw); go_simp)
    all_goals with_reducible rfl
  try simp only [Act.put, List.setIfInBounds_toArray, List.set_cons_zero, List.set_cons_succ]
  refine tkn (v := ?_) 12 so12 rfl (by as_aux_lemma => kernel_rfl) (by as_aux_lemma => kernel_rfl) (by as_aux_lemma => kernel_rfl) (fun _ _ _ h => h) (by rfl) hHeld ?_ ?_
  rotate_left
  · (unfold so12; intro w hSw; (try dsimp only at hSw); go_simp)
    all_goals with_reducible rfl
  try simp only [Act.put, List.setIfInBounds_toArray, List.set_cons_zero, List.set_cons_succ]
  refine tkn (v := ?_) 13 so13 rfl (by as_aux_lemma => kernel_rfl) (by as_aux_lemma => kernel_rfl) (by as_aux_lemma => kernel_rfl) (fun _ _ _ h => h) (by rfl) hHeld ?_ ?_
  rotate_left
  · (unfold so13; intro w hSw; (try dsimp only at hSw); go_simp)
    all_goals with_reducible rfl
  try simp only [Act.put, List.setIfInBounds_toArray, List.set_cons_zero, List.set_cons_succ]
  refine tkn (v := ?_) 14 so14 rfl (by as_aux_lemma => kernel_rfl) (by as_aux_lemma => kernel_rfl) (by as_aux_lemma => kernel_rfl) (fun _ _ _ h => h) (by rfl) hHeld ?_ ?_
  rotate_left
  · (unfold so14; intro w hSw; (try dsimp only at hSw); go_simp)
    all_goals with_reducible rfl
  try simp only [Act.put, List.setIfInBounds_toArray, List.set_cons_zero, List.set_cons_succ]
  refine tkn (v := ?_) 15 so15 rfl (by as_aux_lemma => kernel_rfl) (by as_aux_lemma => kernel_rfl) (by as_aux_lemma => kernel_rfl) (fun _ _ _ h => h) (by rfl) hHeld ?_ ?_
  rotate_left
  · (unfold so15; intro w hSw; (try dsimp only at hSw); go_simp)
    all_goals with_reducible rfl
  try simp only [Act.put, List.setIfInBounds_toArray, List.set_cons_zero, List.set_cons_succ]
  refine tkn (v := ?_) 16 so16 rfl (by as_aux_lemma => kernel_rfl) (by as_aux_lemma => kernel_rfl) (by as_aux_lemma => kernel_rfl) (fun _ _ _ h => h) (by rfl) hHeld ?_ ?_
  rotate_left
  · (unfold so16; intro w hSw; (try dsimp only at hSw); go_simp)
    all_goals with_reducible rfl
  try simp only [Act.put, List.setIfInBounds_toArray, List.set_cons_zero, List.set_cons_succ]
  refine tkn (v := ?_) 17 so17 rfl (by as_aux_lemma => kernel_rfl) (by as_aux_lemma => kernel_rfl) (by as_aux_lemma => kernel_rfl) (fun _ _ _ h => h) (by rfl) hHeld ?_ ?_
  rotate_left
  · (unfold so17; intro w hSw; (try dsimp only at hSw); go_simp)
    all_goals with_reducible rfl
  try simp only [Act.put, List.setIfInBounds_toArray, List.set_cons_zero, List.set_cons_succ]
  refine tkn (v := ?_) 18 so18 rfl (by as_aux_lemma => kernel_rfl) (by as_aux_lemma => kernel_rfl) (by as_aux_lemma => kernel_rfl) (fun _ _ _ h => h) (by rfl) hHeld ?_ ?_
  rotate_left
  · (unfold so18; intro w hSw; (try dsimp only at hSw); go_simp)
    all_goals with_reducible rfl
  try simp only [Act.put, List.setIfInBounds_toArray, List.set_cons_zero, List.set_cons_succ]
  refine tkn (v := ?_) 19 so19 rfl (by as_aux_lemma => kernel_rfl) (by as_aux_lemma => kernel_rfl) (by as_aux_lemma => kernel_rfl) (fun _ _ _ h => h) (by rfl) hHeld ?_ ?_
  rotate_left
  · (unfold so19; intro w hSw; (try dsimp only at hSw); go_simp)
    all_goals with_reducible rfl
  try simp only [Act.put, List.setIfInBounds_toArray, List.set_cons_zero, List.set_cons_succ]
  refine tkn (v := ?_) 20 so20 rfl (by as_aux_lemma => kernel_rfl) (by as_aux_lemma => kernel_rfl) (by as_aux_lemma => kernel_rfl) (fun _ _ _ h => h) (by rfl) hHeld ?_ ?_
  rotate_left
  · (unfold so20; intro w hSw; (try dsimp only at hSw); go_simp)
    all_goals with_reducible rfl
  try simp only [Act.put, List.setIfInBounds_toArray, List.set_cons_zero, List.set_cons_succ]
  refine tkn (v := ?_) 21 so21 rfl (by as_aux_lemma => kernel_rfl) (by as_aux_lemma => kernel_rfl) (by as_aux_lemma => kernel_rfl) (fun _ _ _ h => h) (by rfl) hHeld ?_ ?_
  rotate_left
  · (unfold so21; intro w hSw; (try dsimp only at hSw); go_simp)
    all_goals with_reducible rfl
  try simp only [Act.put, List.setIfInBounds_toArray, List.set_cons_zero, List.set_cons_succ]
  refine tkn (v := ?_) 22 so22 rfl (by as_aux_lemma => kernel_rfl) (by as_aux_lemma => kernel_rfl) (by as_aux_lemma => kernel_rfl) (fun _ _ _ h => h) (by rfl) hHeld ?_ ?_
  rotate_left
  · (unfold so22; intro w hSw; (try dsimp only at hSw); go_simp)
    all_goals with_reducible rfl
  try simp only [Act.put, List.setIfInBounds_toArray, List.set_cons_zero, List.set_cons_succ]
  refine tkn (v := ?_) 23 so23 rfl (by as_aux_lemma => kernel_rfl) (by as_aux_lemma => kernel_rfl) (by as_aux_lemma => kernel_rfl) (fun _ _ _ h => h) (by rfl) hHeld ?_ ?_
  rotate_left
  · (unfold so23; intro w hSw; (try dsimp only at hSw); go_simp)
    all_goals with_reducible rfl
  try simp only [Act.put, List.setIfInBounds_toArray, List.set_cons_zero, List.set_cons_succ]
  refine tkn (v := ?_) 24 so24 rfl (by as_aux_lemma => kernel_rfl) (by as_aux_lemma => kernel_rfl) (by as_aux_lemma => kernel_rfl) (fun _ _ _ h => h) (by rfl) hHeld ?_ ?_
  rotate_left
  · (unfold so24; intro w hSw; (try dsimp only at hSw); go_simp)
    all_goals with_reducible rfl
  try simp only [Act.put, List.setIfInBounds_toArray, List.set_cons_zero, List.set_cons_succ]
  refine tkn (v := ?_) 25 so25 rfl (by as_aux_lemma => kernel_rfl) (by as_aux_lemma => kernel_rfl) (by as_aux_lemma => kernel_rfl) (fun _ _ _ h => h) (by rfl) hHeld ?_ ?_
  rotate_left
  · (unfold so25; intro w hSw; (try dsimp only at hSw); go_simp)
    all_goals with_reducible rfl
  try simp only [Act.put, List.setIfInBounds_toArray, List.set_cons_zero, List.set_cons_succ]
  refine tkn (v := ?_) 26 so26 rfl (by as_aux_lemma => kernel_rfl) (by as_aux_lemma => kernel_rfl) (by as_aux_lemma => kernel_rfl) (fun _ _ _ h => h) (by rfl) hHeld ?_ ?_
  rotate_left
  · (unfold so26; intro w hSw; (try dsimp only at hSw); go_simp)
    all_goals with_reducible rfl
  try simp only [Act.put, List.setIfInBounds_toArray, List.set_cons_zero, List.set_cons_succ]
  refine tkn (v := ?_) 27 so27 rfl (by as_aux_lemma => kernel_rfl) (by as_aux_lemma => kernel_rfl) (by as_aux_lemma => kernel_rfl) (fun _ _ _ h => h) (by rfl) hHeld ?_ ?_
  rotate_left
  · (unfold so27; intro w hSw; (try dsimp only at hSw); go_simp)
    all_goals with_reducible rfl
  try simp only [Act.put, List.setIfInBounds_toArray, List.set_cons_zero, List.set_cons_succ]
  refine tkn (v := ?_) 28 so28 rfl (by as_aux_lemma => kernel_rfl) (by as_aux_lemma => kernel_rfl) (by as_aux_lemma => kernel_rfl) (fun _ _ _ h => h) (by rfl) hHeld ?_ ?_
  rotate_left
  · (unfold so28; intro w hSw; (try dsimp only at hSw); go_simp)
    all_goals with_reducible rfl
  try simp only [Act.put, List.setIfInBounds_toArray, List.set_cons_zero, List.set_cons_succ]
  refine wpAnyH_ready (rs := [29]) (by as_aux_lemma => kernel_rfl) (by simp) ?_
  refine (AllReadyH.cons (o := so29) rfl (fun K hK => ?_) AllReadyH.nil)
  unfold so29; go_simp
  go_at_call 14
  refine (v_any _ _).mono ?_
  rintro e w118 ⟨rfl, hg⟩
  have hd := hd.trans' hg
  have hT := hT.bel hg
  clear hg
  first | refine hK.out _ _ ?_ (fun hHeld => ?_) | (go_wp2_with fail; refine hK.out _ _ ?_ (fun hHeld => ?_))
  · (try dsimp only); exact hT.cells
  clear hK K
  try simp only [Act.put, List.setIfInBounds_toArray, List.set_cons_zero, List.set_cons_succ]
  refine tkn (v := ?_) 30 so30 rfl (by as_aux_lemma => kernel_rfl) (by as_aux_lemma => kernel_rfl) (by as_aux_lemma => kernel_rfl) (fun _ _ _ h => h) (by rfl) hHeld ?_ ?_
  rotate_left
  · (unfold so30; intro w hSw; (try dsimp only at hSw); go_simp)
    all_goals with_reducible rfl
  try simp only [Act.put, List.setIfInBounds_toArray, List.set_cons_zero, List.set_cons_succ]
  refine wpAnyH_ready (rs := [31]) (by as_aux_lemma => kernel_rfl) (by simp) ?_
  refine (AllReadyH.cons (o := so31) rfl (fun K hK => ?_) AllReadyH.nil)
  unfold so31; go_simp
  have hg := bel_alloc w118 (.cells #[.string ⟨#[89]⟩, .bool true, .string ⟨#[88]⟩] 32)
  have hN := SliceAt.lit EB w118 32 [(⟨⟨#[89]⟩, ⟨true, ⟨#[88]⟩⟩⟩ : BindD)] #[.string ⟨#[89]⟩, .bool true, .string ⟨#[88]⟩] rfl
  obtain ⟨w120, hW⟩ : ∃ x, x = w118.alloc (.cells #[.string ⟨#[89]⟩, .bool true, .string ⟨#[88]⟩] 32) := ⟨_, rfl⟩
  rw [← hW] at hg hN ⊢
  have hd := hd.trans' hg
  have hT := hT.bel hg
  clear hg
  have HM120 := Lib.hid hN
  clear hN hW
  first | refine hK.out _ _ ?_ (fun hHeld => ?_) | (go_wp2_with fail; refine hK.out _ _ ?_ (fun hHeld => ?_))
  · (try dsimp only); exact hT.cells
  clear hK K
  try simp only [Act.put, List.setIfInBounds_toArray, List.set_cons_zero, List.set_cons_succ]
  refine wpAnyH_ready (rs := [32]) (by as_aux_lemma => kernel_rfl) (by simp) ?_
  refine (AllReadyH.cons (o := so32) rfl (fun K hK => ?_) AllReadyH.nil)
  unfold so32; go_simp
  go_at_call 17
  refine (sameB2_any qM oM oM.length kM rfl _ [(⟨⟨#[89]⟩, ⟨true, ⟨#[88]⟩⟩⟩ : BindD)] 1 1 EM.out.symm (by rw [EM.out]; rfl) _ (HMW.out _ hd) HM120.out (by rw [EM.out]; decide)).mono ?_
  rintro e w121 ⟨rfl, hg⟩
  have hd := hd.trans' hg
  have hT := hT.bel hg
  clear hg
  first | refine hK.out _ _ ?_ (fun hHeld => ?_) | (go_wp2_with fail; refine hK.out _ _ ?_ (fun hHeld => ?_))
  · (try dsimp only); exact hT.cells
  clear hK K
  try simp only [Act.put, List.setIfInBounds_toArray, List.set_cons_zero, List.set_cons_succ]
  refine tkn (v := ?_) 33 so33 rfl (by as_aux_lemma => kernel_rfl) (by as_aux_lemma => kernel_rfl) (by as_aux_lemma => kernel_rfl) (fun _ _ _ h => h) (by rfl) hHeld ?_ ?_
  rotate_left
  · (unfold so33; intro w hSw; (try dsimp only at hSw); go_simp)
    all_goals with_reducible rfl
  try simp only [Act.put, List.setIfInBounds_toArray, List.set_cons_zero, List.set_cons_succ]
  refine tkn (v := ?_) 34 so34 rfl (by as_aux_lemma => kernel_rfl) (by as_aux_lemma => kernel_rfl) (by as_aux_lemma => kernel_rfl) (fun _ _ _ h => h) (by rfl) hHeld ?_ ?_
  rotate_left
  · (unfold so34; intro w hSw; (try dsimp only at hSw); go_simp)
    all_goals with_reducible rfl
  try simp only [Act.put, List.setIfInBounds_toArray, List.set_cons_zero, List.set_cons_succ]
  refine tkn (v := ?_) 35 so35 rfl (by as_aux_lemma => kernel_rfl) (by as_aux_lemma => kernel_rfl) (by as_aux_lemma => kernel_rfl) (fun _ _ _ h => h) (by rfl) hHeld ?_ ?_
  rotate_left
  · (unfold so35; intro w hSw; (try dsimp only at hSw); go_simp)
    all_goals with_reducible rfl
  try simp only [Act.put, List.setIfInBounds_toArray, List.set_cons_zero, List.set_cons_succ]
  refine tkn (v := ?_) 36 so36 rfl (by as_aux_lemma => kernel_rfl) (by as_aux_lemma => kernel_rfl) (by as_aux_lemma => kernel_rfl) (fun _ _ _ h => h) (by rfl) hHeld ?_ ?_
  rotate_left
  · (unfold so36; intro w hSw; (try dsimp only at hSw); go_simp)
    all_goals with_reducible rfl
  try simp only [Act.put, List.setIfInBounds_toArray, List.set_cons_zero, List.set_cons_succ]
  refine tkn (v := ?_) 37 so37 rfl (by as_aux_lemma => kernel_rfl) (by as_aux_lemma => kernel_rfl) (by as_aux_lemma => kernel_rfl) (fun _ _ _ h => h) (by rfl) hHeld ?_ ?_
  rotate_left
  · (unfold so37; intro w hSw; (try dsimp only at hSw); go_simp)
    all_goals with_reducible rfl
  try simp only [Act.put, List.setIfInBounds_toArray, List.set_cons_zero, List.set_cons_succ]
  refine tkn (v := ?_) 38 so38 rfl (by as_aux_lemma => kernel_rfl) (by as_aux_lemma => kernel_rfl) (by as_aux_lemma => kernel_rfl) (fun _ _ _ h => h) (by rfl) hHeld ?_ ?_
  rotate_left
  · (unfold so38; intro w hSw; (try dsimp only at hSw); go_simp)
    all_goals with_reducible rfl
  try simp only [Act.put, List.setIfInBounds_toArray, List.set_cons_zero, List.set_cons_succ]
  refine tkn (v := ?_) 39 so39 rfl (by as_aux_lemma => kernel_rfl) (by as_aux_lemma => kernel_rfl) (by as_aux_lemma => kernel_rfl) (fun _ _ _ h => h) (by rfl) hHeld ?_ ?_
  rotate_left
  · (unfold so39; intro w hSw; (try dsimp only at hSw); go_simp)
    all_goals with_reducible rfl
  try simp only [Act.put, List.setIfInBounds_toArray, List.set_cons_zero, List.set_cons_succ]
  refine tkn (v := ?_) 40 so40 rfl (by as_aux_lemma => kernel_rfl) (by as_aux_lemma => kernel_rfl) (by as_aux_lemma => kernel_rfl) (fun _ _ _ h => h) (by rfl) hHeld ?_ ?_
  rotate_left
  · (unfold so40; intro w hSw; (try dsimp only at hSw); go_simp)
    all_goals with_reducible rfl
  try simp only [Act.put, List.setIfInBounds_toArray, List.set_cons_zero, List.set_cons_succ]
  refine wpAnyH_ready (rs := [41]) (by as_aux_lemma => kernel_rfl) (by simp) ?_
  refine (AllReadyH.cons (o := so41) rfl (fun K hK => ?_) AllReadyH.nil)
  unfold so41; go_simp
  go_at_call 17
  refine (hS3.out _ hd).mono ?_
  rintro e w130 ⟨rfl, hg⟩
  have hd := hd.trans' hg
  have hT := hT.bel hg
  clear hg
  first | refine hK.out _ _ ?_ (fun hHeld => ?_) | (go_wp2_with fail; refine hK.out _ _ ?_ (fun hHeld => ?_))
  · (try dsimp only); exact hT.cells
  clear hK K
  try simp only [Act.put, List.setIfInBounds_toArray, List.set_cons_zero, List.set_cons_succ]
  refine tkn (v := ?_) 42 so42 rfl (by as_aux_lemma => kernel_rfl) (by as_aux_lemma => kernel_rfl) (by as_aux_lemma => kernel_rfl) (fun _ _ _ h => h) (by rfl) hHeld ?_ ?_
  rotate_left
  · (unfold so42; intro w hSw; (try dsimp only at hSw); go_simp)
    all_goals with_reducible rfl
  try simp only [Act.put, List.setIfInBounds_toArray, List.set_cons_zero, List.set_cons_succ]
  refine tkn (v := ?_) 43 so43 rfl (by as_aux_lemma => kernel_rfl) (by as_aux_lemma => kernel_rfl) (by as_aux_lemma => kernel_rfl) (fun _ _ _ h => h) (by rfl) hHeld ?_ ?_
  rotate_left
  · (unfold so43; intro w hSw; (try dsimp only at hSw); go_simp)
    all_goals with_reducible rfl
  try simp only [Act.put, List.setIfInBounds_toArray, List.set_cons_zero, List.set_cons_succ]
  refine tkn (v := ?_) 44 so44 rfl (by as_aux_lemma => kernel_rfl) (by as_aux_lemma => kernel_rfl) (by as_aux_lemma => kernel_rfl) (fun _ _ _ h => h) (by rfl) hHeld ?_ ?_
  rotate_left
  · (unfold so44; intro w hSw; (try dsimp only at hSw); go_simp)
    all_goals with_reducible rfl
  try simp only [Act.put, List.setIfInBounds_toArray, List.set_cons_zero, List.set_cons_succ]
  refine tkn (v := ?_) 45 so45 rfl (by as_aux_lemma => kernel_rfl) (by as_aux_lemma => kernel_rfl) (by as_aux_lemma => kernel_rfl) (fun _ _ _ h => h) (by rfl) hHeld ?_ ?_
  rotate_left
  · (unfold so45; intro w hSw; (try dsimp only at hSw); go_simp)
    all_goals with_reducible rfl
  try simp only [Act.put, List.setIfInBounds_toArray, List.set_cons_zero, List.set_cons_succ]
  refine tkn (v := ?_) 46 so46 rfl (by as_aux_lemma => kernel_rfl) (by as_aux_lemma => kernel_rfl) (by as_aux_lemma => kernel_rfl) (fun _ _ _ h => h) (by rfl) hHeld ?_ ?_
  rotate_left
  · (unfold so46; intro w hSw; (try dsimp only at hSw); go_simp)
    all_goals with_reducible rfl
  try simp only [Act.put, List.setIfInBounds_toArray, List.set_cons_zero, List.set_cons_succ]
  refine tkn (v := ?_) 47 so47 rfl (by as_aux_lemma => kernel_rfl) (by as_aux_lemma => kernel_rfl) (by as_aux_lemma => kernel_rfl) (fun _ _ _ h => h) (by rfl) hHeld ?_ ?_
  rotate_left
  · (unfold so47; intro w hSw; (try dsimp only at hSw); go_simp)
    all_goals with_reducible rfl
  try simp only [Act.put, List.setIfInBounds_toArray, List.set_cons_zero, List.set_cons_succ]
  refine wpAnyH_ready (rs := [48]) (by as_aux_lemma => kernel_rfl) (by simp) ?_
  refine (AllReadyH.cons (o := so48) rfl (fun K hK => ?_) AllReadyH.nil)
  unfold so48; go_simp
  go_at_call 14
  refine (v_any _ _).mono ?_
  rintro e w137 ⟨rfl, hg⟩
  have hd := hd.trans' hg
  have hT := hT.bel hg
  clear hg
  first | refine hK.out _ _ ?_ (fun hHeld => ?_) | (go_wp2_with fail; refine hK.out _ _ ?_ (fun hHeld => ?_))
  · (try dsimp only); exact hT.cells
  clear hK K
  try simp only [Act.put, List.setIfInBounds_toArray, List.set_cons_zero, List.set_cons_succ]
  refine tkn (v := ?_) 49 so49 rfl (by as_aux_lemma => kernel_rfl) (by as_aux_lemma => kernel_rfl) (by as_aux_lemma => kernel_rfl) (fun _ _ _ h => h) (by rfl) hHeld ?_ ?_
  rotate_left
  · (unfold so49; intro w hSw; (try dsimp only at hSw); go_simp)
    all_goals with_reducible rfl
  try simp only [Act.put, List.setIfInBounds_toArray, List.set_cons_zero, List.set_cons_succ]
  refine tkn (v := ?_) 50 so50 rfl (by as_aux_lemma => kernel_rfl) (by as_aux_lemma => kernel_rfl) (by as_aux_lemma => kernel_rfl) (fun _ _ _ h => h) (by rfl) hHeld ?_ ?_
  rotate_left
  · (unfold so50; intro w hSw; (try dsimp only at hSw); go_simp)
    all_goals with_reducible rfl
  try simp only [Act.put, List.setIfInBounds_toArray, List.set_cons_zero, List.set_cons_succ]
  refine tkn (v := ?_) 51 so51 rfl (by as_aux_lemma => kernel_rfl) (by as_aux_lemma => kernel_rfl) (by as_aux_lemma => kernel_rfl) (fun _ _ _ h => h) (by rfl) hHeld ?_ ?_
  rotate_left
  · (unfold so51; intro w hSw; (try dsimp only at hSw); go_simp)
    all_goals with_reducible rfl
  try simp only [Act.put, List.setIfInBounds_toArray, List.set_cons_zero, List.set_cons_succ]
  refine tkn (v := ?_) 52 so52 rfl (by as_aux_lemma => kernel_rfl) (by as_aux_lemma => kernel_rfl) (by as_aux_lemma => kernel_rfl) (fun _ _ _ h => h) (by rfl) hHeld ?_ ?_
  rotate_left
  · (unfold so52; intro w hSw; (try dsimp only at hSw); go_simp)
    all_goals with_reducible rfl
  try simp only [Act.put, List.setIfInBounds_toArray, List.set_cons_zero, List.set_cons_succ]
  refine tkn (v := ?_) 53 so53 rfl (by as_aux_lemma => kernel_rfl) (by as_aux_lemma => kernel_rfl) (by as_aux_lemma => kernel_rfl) (fun _ _ _ h => h) (by rfl) hHeld ?_ ?_
  rotate_left
  · (unfold so53; intro w hSw; (try dsimp only at hSw); go_simp)
    all_goals with_reducible rfl
  try simp only [Act.put, List.setIfInBounds_toArray, List.set_cons_zero, List.set_cons_succ]
  refine tkn (v := ?_) 54 so54 rfl (by as_aux_lemma => kernel_rfl) (by as_aux_lemma => kernel_rfl) (by as_aux_lemma => kernel_rfl) (fun _ _ _ h => h) (by rfl) hHeld ?_ ?_
  rotate_left
  · (unfold so54; intro w hSw; (try dsimp only at hSw); go_simp)
    all_goals with_reducible rfl
  try simp only [Act.put, List.setIfInBounds_toArray, List.set_cons_zero, List.set_cons_succ]
  refine tkn (v := ?_) 55 so55 rfl (by as_aux_lemma => kernel_rfl) (by as_aux_lemma => kernel_rfl) (by as_aux_lemma => kernel_rfl) (fun _ _ _ h => h) (by rfl) hHeld ?_ ?_
  rotate_left
  · (unfold so55; intro w hSw; (try dsimp only at hSw); go_simp)
    all_goals with_reducible rfl
  try simp only [Act.put, List.setIfInBounds_toArray, List.set_cons_zero, List.set_cons_succ]
  refine wpAnyH_ready (rs := [56]) (by as_aux_lemma => kernel_rfl) (by simp) ?_
  refine (AllReadyH.cons (o := so56) rfl (fun K hK => ?_) AllReadyH.nil)
  unfold so56; go_simp
  go_at_call 12
  refine (two_any _).mono ?_
  rintro e w145 ⟨⟨g145, HG145, rfl⟩, hg⟩
  have hd := hd.trans' hg
  have hT := hT.bel hg
  clear hg
  first | refine hK.out _ _ ?_ (fun hHeld => ?_) | (go_wp2_with fail; refine hK.out _ _ ?_ (fun hHeld => ?_))
  · (try dsimp only); exact hT.cells
  clear hK K
  try simp only [Act.put, List.setIfInBounds_toArray, List.set_cons_zero, List.set_cons_succ]
  refine wpAnyH_ready (rs := [57]) (by as_aux_lemma => kernel_rfl) (by simp) ?_
  refine (AllReadyH.cons (o := so57) rfl (fun K hK => ?_) AllReadyH.nil)
  unfold so57; go_simp
  go_at_call 13
  refine (c_any _ _).mono ?_
  rintro e w146 ⟨rfl, hg⟩
  have hd := hd.trans' hg
  have hT := hT.bel hg
  have HG145 := Lib.hid (HG145.out.bel hg)
  clear hg
  first | refine hK.out _ _ ?_ (fun hHeld => ?_) | (go_wp2_with fail; refine hK.out _ _ ?_ (fun hHeld => ?_))
  · (try dsimp only); exact hT.cells
  clear hK K
  try simp only [Act.put, List.setIfInBounds_toArray, List.set_cons_zero, List.set_cons_succ]
  refine wpAnyH_ready (rs := [58]) (by as_aux_lemma => kernel_rfl) (by simp) ?_
  refine (AllReadyH.cons (o := so58) rfl (fun K hK => ?_) AllReadyH.nil)
  unfold so58; go_simp
  go_at_call 18
  refine (take_t _ twoD 2 2 rfl ⟨false, ⟨#[88]⟩⟩ _ HG145.out (by decide) ⟨false, ⟨#[88]⟩⟩ ex10).mono ?_
  rintro e w147 ⟨rfl, hg⟩
  have hd := hd.trans' hg
  have hT := hT.bel hg
  clear hg
  first | refine hK.out _ _ ?_ (fun hHeld => ?_) | (go_wp2_with fail; refine hK.out _ _ ?_ (fun hHeld => ?_))
  · (try dsimp only); exact hT.cells
  clear hK K
  try simp only []
  refine wpAnyH_ready (rs := [59]) (by as_aux_lemma => kernel_rfl) (by simp) ?_
  refine (AllReadyH.cons (o := so59) rfl (fun K hK => ?_) AllReadyH.nil)
  unfold so59; go_simp
  go_at_call 13
  refine (c_any _ _).mono ?_
  rintro e w148 ⟨rfl, hg⟩
  have hd := hd.trans' hg
  have hT := hT.bel hg
  clear hg
  first | refine hK.out _ _ ?_ (fun hHeld => ?_) | (go_wp2_with fail; refine hK.out _ _ ?_ (fun hHeld => ?_))
  · (try dsimp only); exact hT.cells
  clear hK K
  try simp only [Act.put, List.setIfInBounds_toArray, List.set_cons_zero, List.set_cons_succ]
  refine tkn (v := ?_) 60 so60 rfl (by as_aux_lemma => kernel_rfl) (by as_aux_lemma => kernel_rfl) (by as_aux_lemma => kernel_rfl) (fun _ _ _ h => h) (by rfl) hHeld ?_ ?_
  rotate_left
  · (unfold so60; intro w hSw; (try dsimp only at hSw); go_simp)
    all_goals with_reducible rfl
  try simp only [Act.put, List.setIfInBounds_toArray, List.set_cons_zero, List.set_cons_succ]
  refine tkn (v := ?_) 61 so61 rfl (by as_aux_lemma => kernel_rfl) (by as_aux_lemma => kernel_rfl) (by as_aux_lemma => kernel_rfl) (fun _ _ _ h => h) (by rfl) hHeld ?_ ?_
  rotate_left
  · (unfold so61; intro w hSw; (try dsimp only at hSw); go_simp)
    all_goals with_reducible rfl
  try simp only [Act.put, List.setIfInBounds_toArray, List.set_cons_zero, List.set_cons_succ]
  refine tkn (v := ?_) 62 so62 rfl (by as_aux_lemma => kernel_rfl) (by as_aux_lemma => kernel_rfl) (by as_aux_lemma => kernel_rfl) (fun _ _ _ h => h) (by rfl) hHeld ?_ ?_
  rotate_left
  · (unfold so62; intro w hSw; (try dsimp only at hSw); go_simp)
    all_goals with_reducible rfl
  try simp only [Act.put, List.setIfInBounds_toArray, List.set_cons_zero, List.set_cons_succ]
  refine wpAnyH_ready (rs := [63, 64]) (by as_aux_lemma => kernel_rfl) (by simp) ?_
  refine (AllReadyH.cons (o := so63) rfl (fun K hK => ?_) (AllReadyH.cons (o := so64) rfl (fun K hK => ?_) AllReadyH.nil))
  unfold so63; go_simp
  go_at_call 12
  refine (two_any _).mono ?_
  rintro e w152 ⟨⟨g152, HG152, rfl⟩, hg⟩
  have hd := hd.trans' hg
  have hT := hT.bel hg
  clear hg
  first | refine hK.out _ _ ?_ (fun hHeld => ?_) | (go_wp2_with fail; refine hK.out _ _ ?_ (fun hHeld => ?_))
  · (try dsimp only); exact hT.cells
  clear hK K
  try simp only [Act.put, List.setIfInBounds_toArray, List.set_cons_zero, List.set_cons_succ]
  refine wpAnyH_ready (rs := [64]) (by as_aux_lemma => kernel_rfl) (by simp) ?_
  refine (AllReadyH.cons (o := so64) rfl (fun K hK => ?_) AllReadyH.nil)
  unfold so64; go_simp
  have hg := bel_alloc w152 (.cells #[.string ⟨#[89]⟩, .string ⟨#[81]⟩] 9)
  have hN := SliceAt.lit ES w152 9 [⟨#[89]⟩, ⟨#[81]⟩] #[.string ⟨#[89]⟩, .string ⟨#[81]⟩] rfl
  obtain ⟨w153, hW⟩ : ∃ x, x = w152.alloc (.cells #[.string ⟨#[89]⟩, .string ⟨#[81]⟩] 9) := ⟨_, rfl⟩
  rw [← hW] at hg hN ⊢
  have hd := hd.trans' hg
  have hT := hT.bel hg
  have HG152 := Lib.hid (HG152.out.bel hg)
  clear hg
  have HX153 := Lib.hid hN
  clear hN hW
  first | refine hK.out _ _ ?_ (fun hHeld => ?_) | (go_wp2_with fail; refine hK.out _ _ ?_ (fun hHeld => ?_))
  · (try dsimp only); exact hT.cells
  clear hK K
  try simp only [Act.put, List.setIfInBounds_toArray, List.set_cons_zero, List.set_cons_succ]
  refine wpAnyH_ready (rs := [65]) (by as_aux_lemma => kernel_rfl) (by simp) ?_
  refine (AllReadyH.cons (o := so65) rfl (fun K hK => ?_) AllReadyH.nil)
  unfold so65; go_simp
  go_at_call 19
  refine (take_r _ twoD 2 2 rfl _ [⟨#[89]⟩, ⟨#[81]⟩] 2 2 rfl _ HG152.out (by decide) (SliceAt.items HX153.out) (by decide) (twoD.drop 1) ex11).mono ?_
  rintro e w154 ⟨⟨qR, kR, oR, ER, HR, rfl⟩, hg⟩
  have hd := hd.trans' hg
  have hT := hT.bel hg
  clear hg
  first | refine hK.out _ _ ?_ (fun hHeld => ?_) | (go_wp2_with fail; refine hK.out _ _ ?_ (fun hHeld => ?_))
  · (try dsimp only); exact hT.cells
  clear hK K
  try simp only [Act.put, List.setIfInBounds_toArray, List.set_cons_zero, List.set_cons_succ]
  refine wpAnyH_ready (rs := [66]) (by as_aux_lemma => kernel_rfl) (by simp) ?_
  refine (AllReadyH.cons (o := so66) rfl (fun K hK => ?_) AllReadyH.nil)
  unfold so66; go_simp
  go_at_call 12
  refine (two_any _).mono ?_
  rintro e w155 ⟨⟨g155, HG155, rfl⟩, hg⟩
  have hd := hd.trans' hg
  have hT := hT.bel hg
  have HR := Lib.hid (HR.out.bel hg)
  clear hg
  first | refine hK.out _ _ ?_ (fun hHeld => ?_) | (go_wp2_with fail; refine hK.out _ _ ?_ (fun hHeld => ?_))
  · (try dsimp only); exact hT.cells
  clear hK K
  try simp only [Act.put, List.setIfInBounds_toArray, List.set_cons_zero, List.set_cons_succ]
  refine tkn (v := ?_) 67 so67 rfl (by as_aux_lemma => kernel_rfl) (by as_aux_lemma => kernel_rfl) (by as_aux_lemma => kernel_rfl) (fun _ _ _ h => h) (by rfl) hHeld ?_ ?_
  rotate_left
  · (unfold so67; intro w hSw; (try dsimp only at hSw); go_simp)
    all_goals with_reducible rfl
  try simp only [Act.put, List.setIfInBounds_toArray, List.set_cons_zero, List.set_cons_succ]
  refine wpAnyH_ready (rs := [68]) (by as_aux_lemma => kernel_rfl) (by simp) ?_
  refine (AllReadyH.cons (o := so68) rfl (fun K hK => ?_) AllReadyH.nil)
  unfold so68; go_simp
  go_at_call 17
  refine (sameB2_any qR oR oR.length kR rfl _ (twoD.drop 1) 1 1 ER.out.symm (by rw [ER.out]; rfl) _ HR.out (HG155.out.dropCap 1) (by rw [ER.out]; decide)).mono ?_
  rintro e w157 ⟨rfl, hg⟩
  have hd := hd.trans' hg
  have hT := hT.bel hg
  clear hg
  first | refine hK.out _ _ ?_ (fun hHeld => ?_) | (go_wp2_with fail; refine hK.out _ _ ?_ (fun hHeld => ?_))
  · (try dsimp only); exact hT.cells
  clear hK K
  try simp only [Act.put, List.setIfInBounds_toArray, List.set_cons_zero, List.set_cons_succ]
  refine tkn (v := ?_) 69 so69 rfl (by as_aux_lemma => kernel_rfl) (by as_aux_lemma => kernel_rfl) (by as_aux_lemma => kernel_rfl) (fun _ _ _ h => h) (by rfl) hHeld ?_ ?_
  rotate_left
  · (unfold so69; intro w hSw; (try dsimp only at hSw); go_simp)
    all_goals with_reducible rfl
  try simp only [Act.put, List.setIfInBounds_toArray, List.set_cons_zero, List.set_cons_succ]
  refine tkn (v := ?_) 70 so70 rfl (by as_aux_lemma => kernel_rfl) (by as_aux_lemma => kernel_rfl) (by as_aux_lemma => kernel_rfl) (fun _ _ _ h => h) (by rfl) hHeld ?_ ?_
  rotate_left
  · (unfold so70; intro w hSw; (try dsimp only at hSw); go_simp)
    all_goals with_reducible rfl
  try simp only [Act.put, List.setIfInBounds_toArray, List.set_cons_zero, List.set_cons_succ]
  refine wpAnyH_ready (rs := [71]) (by as_aux_lemma => kernel_rfl) (by simp) ?_
  refine (AllReadyH.cons (o := so71) rfl (fun K hK => ?_) AllReadyH.nil)
  unfold so71; go_simp
  go_at_call 12
  refine (two_any _).mono ?_
  rintro e w160 ⟨⟨g160, HG160, rfl⟩, hg⟩
  have hd := hd.trans' hg
  have hT := hT.bel hg
  clear hg
  first | refine hK.out _ _ ?_ (fun hHeld => ?_) | (go_wp2_with fail; refine hK.out _ _ ?_ (fun hHeld => ?_))
  · (try dsimp only); exact hT.cells
  clear hK K
  try simp only [Act.put, List.setIfInBounds_toArray, List.set_cons_zero, List.set_cons_succ]
  refine wpAnyH_ready (rs := [72]) (by as_aux_lemma => kernel_rfl) (by simp) ?_
  refine (AllReadyH.cons (o := so72) rfl (fun K hK => ?_) AllReadyH.nil)
  unfold so72; go_simp
  go_at_call 12
  refine (two_any _).mono ?_
  rintro e w161 ⟨⟨g161, HG161, rfl⟩, hg⟩
  have hd := hd.trans' hg
  have hT := hT.bel hg
  have HG160 := Lib.hid (HG160.out.bel hg)
  clear hg
  first | refine hK.out _ _ ?_ (fun hHeld => ?_) | (go_wp2_with fail; refine hK.out _ _ ?_ (fun hHeld => ?_))
  · (try dsimp only); exact hT.cells
  clear hK K
  try simp only [Act.put, List.setIfInBounds_toArray, List.set_cons_zero, List.set_cons_succ]
  refine wpAnyH_ready (rs := [73]) (by as_aux_lemma => kernel_rfl) (by simp) ?_
  refine (AllReadyH.cons (o := so73) rfl (fun K hK => ?_) AllReadyH.nil)
  refine step_freshes (.tmp 160) (.tmp 161) 23 Try.underlying23 (by rfl) (by rfl) (by rfl) HG160.out (by rfl) HG161.out (by rfl) (by decide) (by decide) (by rfl) ?_
  intro q9 k9 w162 out9 HE9 HO9
  have hg := HO9.out.bel
  have hd := hd.trans' hg
  have hT := hT.bel hg
  clear hg
  first | refine hK.out _ _ ?_ (fun hHeld => ?_) | (go_wp2_with fail; refine hK.out _ _ ?_ (fun hHeld => ?_))
  · (try dsimp only); exact hT.cells
  clear hK K
  try simp only [Act.put, List.setIfInBounds_toArray, List.set_cons_zero, List.set_cons_succ]
  refine wpAnyH_ready (rs := [74]) (by as_aux_lemma => kernel_rfl) (by simp) ?_
  refine (AllReadyH.cons (o := so74) rfl (fun K hK => ?_) AllReadyH.nil)
  unfold so74; go_simp
  go_at_call 20
  refine (take_k q9 out9 out9.length k9 rfl _ (OwnL.slice EB HO9.out) (by rw [HE9.out]; decide) 15 (by rw [HE9.out]; exact ex12)).mono ?_
  rintro e w163 ⟨rfl, hg⟩
  have hd := hd.trans' hg
  have hT := hT.bel hg
  clear hg
  first | refine hK.out _ _ ?_ (fun hHeld => ?_) | (go_wp2_with fail; refine hK.out _ _ ?_ (fun hHeld => ?_))
  · (try dsimp only); exact hT.cells
  clear hK K
  try simp only [Act.put, List.setIfInBounds_toArray, List.set_cons_zero, List.set_cons_succ]
  refine tkn (v := ?_) 75 so75 rfl (by as_aux_lemma => kernel_rfl) (by as_aux_lemma => kernel_rfl) (by as_aux_lemma => kernel_rfl) (fun _ _ _ h => h) (by rfl) hHeld ?_ ?_
  rotate_left
  · (unfold so75; intro w hSw; (try dsimp only at hSw); go_simp)
    all_goals with_reducible rfl
  try simp only [Act.put, List.setIfInBounds_toArray, List.set_cons_zero, List.set_cons_succ]
  refine tkn (v := ?_) 76 so76 rfl (by as_aux_lemma => kernel_rfl) (by as_aux_lemma => kernel_rfl) (by as_aux_lemma => kernel_rfl) (fun _ _ _ h => h) (by rfl) hHeld ?_ ?_
  rotate_left
  · (unfold so76; intro w hSw; (try dsimp only at hSw); go_simp)
    all_goals with_reducible rfl
  try simp only [Act.put, List.setIfInBounds_toArray, List.set_cons_zero, List.set_cons_succ]
  refine tkn (v := ?_) 77 so77 rfl (by as_aux_lemma => kernel_rfl) (by as_aux_lemma => kernel_rfl) (by as_aux_lemma => kernel_rfl) (fun _ _ _ h => h) (by rfl) hHeld ?_ ?_
  rotate_left
  · (unfold so77; intro w hSw; (try dsimp only at hSw); go_simp)
    all_goals with_reducible rfl
  try simp only [Act.put, List.setIfInBounds_toArray, List.set_cons_zero]
  rotate_left
  unfold so64; go_simp
  have hg := bel_alloc w148 (.cells #[.string ⟨#[89]⟩, .string ⟨#[81]⟩] 9)
  have hN := SliceAt.lit ES w148 9 [⟨#[89]⟩, ⟨#[81]⟩] #[.string ⟨#[89]⟩, .string ⟨#[81]⟩] rfl
  obtain ⟨w153, hW⟩ : ∃ x, x = w148.alloc (.cells #[.string ⟨#[89]⟩, .string ⟨#[81]⟩] 9) := ⟨_, rfl⟩
  rw [← hW] at hg hN ⊢
  have hd := hd.trans' hg
  have hT := hT.bel hg
  clear hg
  have HX153 := Lib.hid hN
  clear hN hW
  first | refine hK.out _ _ ?_ (fun hHeld => ?_) | (go_wp2_with fail; refine hK.out _ _ ?_ (fun hHeld => ?_))
  · (try dsimp only); exact hT.cells
  clear hK K
  try simp only [Act.put, List.setIfInBounds_toArray, List.set_cons_zero, List.set_cons_succ]
  refine wpAnyH_ready (rs := [63]) (by as_aux_lemma => kernel_rfl) (by simp) ?_
  refine (AllReadyH.cons (o := so63) rfl (fun K hK => ?_) AllReadyH.nil)
  unfold so63; go_simp
  go_at_call 12
  refine (two_any _).mono ?_
  rintro e w152 ⟨⟨g152, HG152, rfl⟩, hg⟩
  have hd := hd.trans' hg
  have hT := hT.bel hg
  have HX153 := Lib.hid (HX153.out.bel hg)
  clear hg
  first | refine hK.out _ _ ?_ (fun hHeld => ?_) | (go_wp2_with fail; refine hK.out _ _ ?_ (fun hHeld => ?_))
  · (try dsimp only); exact hT.cells
  clear hK K
  try simp only [Act.put, List.setIfInBounds_toArray, List.set_cons_zero, List.set_cons_succ]
  refine wpAnyH_ready (rs := [65]) (by as_aux_lemma => kernel_rfl) (by simp) ?_
  refine (AllReadyH.cons (o := so65) rfl (fun K hK => ?_) AllReadyH.nil)
  unfold so65; go_simp
  go_at_call 19
  refine (take_r _ twoD 2 2 rfl _ [⟨#[89]⟩, ⟨#[81]⟩] 2 2 rfl _ HG152.out (by decide) (SliceAt.items HX153.out) (by decide) (twoD.drop 1) ex11).mono ?_
  rintro e w154 ⟨⟨qR, kR, oR, ER, HR, rfl⟩, hg⟩
  have hd := hd.trans' hg
  have hT := hT.bel hg
  clear hg
  first | refine hK.out _ _ ?_ (fun hHeld => ?_) | (go_wp2_with fail; refine hK.out _ _ ?_ (fun hHeld => ?_))
  · (try dsimp only); exact hT.cells
  clear hK K
  try simp only [Act.put, List.setIfInBounds_toArray, List.set_cons_zero, List.set_cons_succ]
  refine wpAnyH_ready (rs := [66]) (by as_aux_lemma => kernel_rfl) (by simp) ?_
  refine (AllReadyH.cons (o := so66) rfl (fun K hK => ?_) AllReadyH.nil)
  unfold so66; go_simp
  go_at_call 12
  refine (two_any _).mono ?_
  rintro e w155 ⟨⟨g155, HG155, rfl⟩, hg⟩
  have hd := hd.trans' hg
  have hT := hT.bel hg
  have HR := Lib.hid (HR.out.bel hg)
  clear hg
  first | refine hK.out _ _ ?_ (fun hHeld => ?_) | (go_wp2_with fail; refine hK.out _ _ ?_ (fun hHeld => ?_))
  · (try dsimp only); exact hT.cells
  clear hK K
  try simp only [Act.put, List.setIfInBounds_toArray, List.set_cons_zero, List.set_cons_succ]
  refine tkn (v := ?_) 67 so67 rfl (by as_aux_lemma => kernel_rfl) (by as_aux_lemma => kernel_rfl) (by as_aux_lemma => kernel_rfl) (fun _ _ _ h => h) (by rfl) hHeld ?_ ?_
  rotate_left
  · (unfold so67; intro w hSw; (try dsimp only at hSw); go_simp)
    all_goals with_reducible rfl
  try simp only [Act.put, List.setIfInBounds_toArray, List.set_cons_zero, List.set_cons_succ]
  refine wpAnyH_ready (rs := [68]) (by as_aux_lemma => kernel_rfl) (by simp) ?_
  refine (AllReadyH.cons (o := so68) rfl (fun K hK => ?_) AllReadyH.nil)
  unfold so68; go_simp
  go_at_call 17
  refine (sameB2_any qR oR oR.length kR rfl _ (twoD.drop 1) 1 1 ER.out.symm (by rw [ER.out]; rfl) _ HR.out (HG155.out.dropCap 1) (by rw [ER.out]; decide)).mono ?_
  rintro e w157 ⟨rfl, hg⟩
  have hd := hd.trans' hg
  have hT := hT.bel hg
  clear hg
  first | refine hK.out _ _ ?_ (fun hHeld => ?_) | (go_wp2_with fail; refine hK.out _ _ ?_ (fun hHeld => ?_))
  · (try dsimp only); exact hT.cells
  clear hK K
  try simp only [Act.put, List.setIfInBounds_toArray, List.set_cons_zero, List.set_cons_succ]
  refine tkn (v := ?_) 69 so69 rfl (by as_aux_lemma => kernel_rfl) (by as_aux_lemma => kernel_rfl) (by as_aux_lemma => kernel_rfl) (fun _ _ _ h => h) (by rfl) hHeld ?_ ?_
  rotate_left
  · (unfold so69; intro w hSw; (try dsimp only at hSw); go_simp)
    all_goals with_reducible rfl
  try simp only [Act.put, List.setIfInBounds_toArray, List.set_cons_zero, List.set_cons_succ]
  refine tkn (v := ?_) 70 so70 rfl (by as_aux_lemma => kernel_rfl) (by as_aux_lemma => kernel_rfl) (by as_aux_lemma => kernel_rfl) (fun _ _ _ h => h) (by rfl) hHeld ?_ ?_
  rotate_left
  · (unfold so70; intro w hSw; (try dsimp only at hSw); go_simp)
    all_goals with_reducible rfl
  try simp only [Act.put, List.setIfInBounds_toArray, List.set_cons_zero, List.set_cons_succ]
  refine wpAnyH_ready (rs := [71]) (by as_aux_lemma => kernel_rfl) (by simp) ?_
  refine (AllReadyH.cons (o := so71) rfl (fun K hK => ?_) AllReadyH.nil)
  unfold so71; go_simp
  go_at_call 12
  refine (two_any _).mono ?_
  rintro e w160 ⟨⟨g160, HG160, rfl⟩, hg⟩
  have hd := hd.trans' hg
  have hT := hT.bel hg
  clear hg
  first | refine hK.out _ _ ?_ (fun hHeld => ?_) | (go_wp2_with fail; refine hK.out _ _ ?_ (fun hHeld => ?_))
  · (try dsimp only); exact hT.cells
  clear hK K
  try simp only [Act.put, List.setIfInBounds_toArray, List.set_cons_zero, List.set_cons_succ]
  refine wpAnyH_ready (rs := [72]) (by as_aux_lemma => kernel_rfl) (by simp) ?_
  refine (AllReadyH.cons (o := so72) rfl (fun K hK => ?_) AllReadyH.nil)
  unfold so72; go_simp
  go_at_call 12
  refine (two_any _).mono ?_
  rintro e w161 ⟨⟨g161, HG161, rfl⟩, hg⟩
  have hd := hd.trans' hg
  have hT := hT.bel hg
  have HG160 := Lib.hid (HG160.out.bel hg)
  clear hg
  first | refine hK.out _ _ ?_ (fun hHeld => ?_) | (go_wp2_with fail; refine hK.out _ _ ?_ (fun hHeld => ?_))
  · (try dsimp only); exact hT.cells
  clear hK K
  try simp only [Act.put, List.setIfInBounds_toArray, List.set_cons_zero, List.set_cons_succ]
  refine wpAnyH_ready (rs := [73]) (by as_aux_lemma => kernel_rfl) (by simp) ?_
  refine (AllReadyH.cons (o := so73) rfl (fun K hK => ?_) AllReadyH.nil)
  refine step_freshes (.tmp 160) (.tmp 161) 23 Try.underlying23 (by rfl) (by rfl) (by rfl) HG160.out (by rfl) HG161.out (by rfl) (by decide) (by decide) (by rfl) ?_
  intro q9 k9 w162 out9 HE9 HO9
  have hg := HO9.out.bel
  have hd := hd.trans' hg
  have hT := hT.bel hg
  clear hg
  first | refine hK.out _ _ ?_ (fun hHeld => ?_) | (go_wp2_with fail; refine hK.out _ _ ?_ (fun hHeld => ?_))
  · (try dsimp only); exact hT.cells
  clear hK K
  try simp only [Act.put, List.setIfInBounds_toArray, List.set_cons_zero, List.set_cons_succ]
  refine wpAnyH_ready (rs := [74]) (by as_aux_lemma => kernel_rfl) (by simp) ?_
  refine (AllReadyH.cons (o := so74) rfl (fun K hK => ?_) AllReadyH.nil)
  unfold so74; go_simp
  go_at_call 20
  refine (take_k q9 out9 out9.length k9 rfl _ (OwnL.slice EB HO9.out) (by rw [HE9.out]; decide) 15 (by rw [HE9.out]; exact ex12)).mono ?_
  rintro e w163 ⟨rfl, hg⟩
  have hd := hd.trans' hg
  have hT := hT.bel hg
  clear hg
  first | refine hK.out _ _ ?_ (fun hHeld => ?_) | (go_wp2_with fail; refine hK.out _ _ ?_ (fun hHeld => ?_))
  · (try dsimp only); exact hT.cells
  clear hK K
  try simp only [Act.put, List.setIfInBounds_toArray, List.set_cons_zero, List.set_cons_succ]
  refine tkn (v := ?_) 75 so75 rfl (by as_aux_lemma => kernel_rfl) (by as_aux_lemma => kernel_rfl) (by as_aux_lemma => kernel_rfl) (fun _ _ _ h => h) (by rfl) hHeld ?_ ?_
  rotate_left
  · (unfold so75; intro w hSw; (try dsimp only at hSw); go_simp)
    all_goals with_reducible rfl
  try simp only [Act.put, List.setIfInBounds_toArray, List.set_cons_zero, List.set_cons_succ]
  refine tkn (v := ?_) 76 so76 rfl (by as_aux_lemma => kernel_rfl) (by as_aux_lemma => kernel_rfl) (by as_aux_lemma => kernel_rfl) (fun _ _ _ h => h) (by rfl) hHeld ?_ ?_
  rotate_left
  · (unfold so76; intro w hSw; (try dsimp only at hSw); go_simp)
    all_goals with_reducible rfl
  try simp only [Act.put, List.setIfInBounds_toArray, List.set_cons_zero, List.set_cons_succ]
  refine tkn (v := ?_) 77 so77 rfl (by as_aux_lemma => kernel_rfl) (by as_aux_lemma => kernel_rfl) (by as_aux_lemma => kernel_rfl) (fun _ _ _ h => h) (by rfl) hHeld ?_ ?_
  rotate_left
  · (unfold so77; intro w hSw; (try dsimp only at hSw); go_simp)
    all_goals with_reducible rfl
  try simp only [Act.put, List.setIfInBounds_toArray, List.set_cons_zero]
  all_goals refine wpAnyH_done (by kernel_rfl) ?_ _
  all_goals go_wp2
  all_goals go_ret
  all_goals exact ⟨rfl, hb.trans' hd⟩
end Go.Proofs.Ytlbollmmomheoaa
