/-
  The law VariantNames. Condition: none.
-/
import Derived.Test.YtiokjjiakcbmhaaDoorVaG
namespace Go.Proofs.YtiokjjiakcbmhaaDoor
open Go.RowKit

def y01 : AtomD := atV pr7 [v0, v1]
def y00 : AtomD := atV pr7 [v0, v0]
theorem nm_1 : canonD (atV pr7 [vX, vY]) = y01 := eqA_of7 (by decide +kernel)
theorem nm_2 : canonD (atV pr7 [vY, vX]) = y01 := eqA_of7 (by decide +kernel)
theorem nm_3 : canonD (atV pr7 [vX, vX]) = y00 := eqA_of7 (by decide +kernel)
theorem nm_4 : canonD (atV pr7 [v1, v0]) = y01 := eqA_of7 (by decide +kernel)
theorem nm_5 : canonD (atV op7 []) = atV op7 [] := eqA_of7 (by decide +kernel)
theorem nm_6 : eqA y01 y00 = false := by decide +kernel
theorem nm_7 : (textD y00).toList = [97, 108, 105, 99, 101, 32, 115, 97, 121, 115, 32, 112, 40, 86, 48, 44, 32, 86, 48, 41] := by decide +kernel
theorem nm_8 : distinctD [atV pr7 [vY, vX], atV pr7 [vX, vY], atV pr7 [vX, vX], atV pr7 [vY, vX]] = [y01, y00] := by
  unfold distinctD
  simp only [List.map_cons, List.map_nil, nm_1, nm_2, nm_3, List.foldl_cons, List.foldl_nil]
  have e1 : stepC [] y01 = [y01] := rfl
  have e2 : stepC [y01] y01 = [y01] := stepC_in ((anyA_iff _ _).2 (by simp))
  have e3 : stepC [y01] y00 = [y01, y00] := stepC_out (by
    simp only [List.any_cons, List.any_nil, Bool.or_false]
    rw [Bool.eq_false_iff]
    intro h
    have h2 := (eqA_iff _ _).1 h
    have := nm_6
    rw [h2, eqA_self y01] at this; cases this)
  have e4 : stepC [y01, y00] y01 = [y01, y00] := stepC_in ((anyA_iff _ _).2 (by simp))
  rw [e1, e2, e3, e4]
theorem ok7 (cs : List ByteArray) (p : ByteArray) (hp : p.size ≤ 1000) (hl : cs.length ≤ 4) (hs : cs.all (fun x => decide (x.size ≤ 1000)) = true) : AtomOk (atV p cs) := by
  have h := smV cs p hp hl hs
  have k : (1000 : Nat) ≤ 9223372036854775807 := by decide
  exact ⟨Nat.le_trans h.says k, Nat.le_trans h.pred k, ⟨by show (-9223372036854775808 : Int) ≤ ((cs.map nameD).length : Int); omega, by show ((cs.map nameD).length : Int) ≤ _; rw [List.length_map]; omega⟩, Nat.le_trans h.t0 k, Nat.le_trans h.t1 k, Nat.le_trans h.t2 k, Nat.le_trans h.t3 k⟩
theorem alloc_size (w : World) (o : Obj) : (w.alloc o).heap.size = w.heap.size + 1 := by simp
/-- names in a block, in each later world -/
theorem lit_in (w W : World) (cs : List ByteArray) (vs : Array Value) (n : Nat) (hv : vs = (cs.map Value.string).toArray) (hn : cs.length = n) (hg : Bel (w.alloc (.cells vs 9)) W) (g : Nat) (hgw : w.heap.size = g) : ListAt W (some ⟨g, 0, none⟩) cs.length (cs.map Value.string) := by
  subst hgw hv
  have hl := listAt_lit w 9 (cs.map Value.string).toArray
  simp only [List.size_toArray, List.length_map] at hl
  obtain ⟨h1, h2⟩ := hl
  refine ⟨h1, h2.imp id ?_⟩
  rintro ⟨b, o, e, hb, hc⟩
  exact ⟨b, o, e, Nat.lt_of_lt_of_le hb hg.size, fun j u hj => cell_bel (hc j u hj) hg⟩
theorem kVL (p : ByteArray) (cs : List ByteArray) (n : Nat) (hn : cs.length = n) (h4 : cs.length ≤ 4) (hne : cs.all (fun x => decide (0 < x.size)) = true) (W : World) (g : Nat) (h : ListAt W (some ⟨g, 0, none⟩) cs.length (cs.map Value.string)) : Calls Tryd.prog 9 #[.string says7, .string p, .slice (some ⟨g, 0, none⟩) n n] W fun e w' => (∃ q, RowKit.Hid (q = atV p cs) ∧ e = .returned (.agg #[.string q.says, .string q.pred, .int .i64 q.n, .bool q.t0.v, .string q.t0.name, .bool q.t1.v, .string q.t1.name, .bool q.t2.v, .string q.t2.name, .bool q.t3.v, .string q.t3.name])) ∧ Bel W w' := by
  subst hn
  exact kAn_any says7 p (some ⟨g, 0, none⟩) cs cs.length W h h4 (fun x hx => by simpa using List.all_eq_true.1 hne x hx)
theorem two_atoms {w W : World} {q : Option Addr} {c : Nat} {x y : AtomD} (h : OA w W q c [x, y]) : ∃ g, q = some ⟨g, 0, none⟩ ∧ ∀ W', Bel W W' → (W'.cell? ⟨g, 0, none⟩ = some (.string x.says) ∧ W'.cell? ⟨g, 1, none⟩ = some (.string x.pred) ∧ W'.cell? ⟨g, 2, none⟩ = some (.int .i64 x.n) ∧ W'.cell? ⟨g, 3, none⟩ = some (.bool x.t0.v) ∧ W'.cell? ⟨g, 4, none⟩ = some (.string x.t0.name) ∧ W'.cell? ⟨g, 5, none⟩ = some (.bool x.t1.v) ∧ W'.cell? ⟨g, 6, none⟩ = some (.string x.t1.name) ∧ W'.cell? ⟨g, 7, none⟩ = some (.bool x.t2.v) ∧ W'.cell? ⟨g, 8, none⟩ = some (.string x.t2.name) ∧ W'.cell? ⟨g, 9, none⟩ = some (.bool x.t3.v) ∧ W'.cell? ⟨g, 10, none⟩ = some (.string x.t3.name)) ∧ (W'.cell? ⟨g, 11, none⟩ = some (.string y.says) ∧ W'.cell? ⟨g, 12, none⟩ = some (.string y.pred) ∧ W'.cell? ⟨g, 13, none⟩ = some (.int .i64 y.n) ∧ W'.cell? ⟨g, 14, none⟩ = some (.bool y.t0.v) ∧ W'.cell? ⟨g, 15, none⟩ = some (.string y.t0.name) ∧ W'.cell? ⟨g, 16, none⟩ = some (.bool y.t1.v) ∧ W'.cell? ⟨g, 17, none⟩ = some (.string y.t1.name) ∧ W'.cell? ⟨g, 18, none⟩ = some (.bool y.t2.v) ∧ W'.cell? ⟨g, 19, none⟩ = some (.string y.t2.name) ∧ W'.cell? ⟨g, 20, none⟩ = some (.bool y.t3.v) ∧ W'.cell? ⟨g, 21, none⟩ = some (.string y.t3.name)) := by
  obtain ⟨g, cap, e, hgo, hgl, _, _⟩ := row_value h.row (by simp)
  injection e with e1 e2 e3
  have key : ∀ W', Bel W W' → ∀ k u, (flatL encA [x, y])[k]? = some u → W'.cell? ⟨g, k, none⟩ = some u := fun W' hg k u hu => cell_bel (row_cell h.row hgo hu) hg
  exact ⟨g, e1, fun W' hg => ⟨⟨key W' hg 0 _ rfl, key W' hg 1 _ rfl, key W' hg 2 _ rfl, key W' hg 3 _ rfl, key W' hg 4 _ rfl, key W' hg 5 _ rfl, key W' hg 6 _ rfl, key W' hg 7 _ rfl, key W' hg 8 _ rfl, key W' hg 9 _ rfl, key W' hg 10 _ rfl⟩, ⟨key W' hg 11 _ rfl, key W' hg 12 _ rfl, key W' hg 13 _ rfl, key W' hg 14 _ rfl, key W' hg 15 _ rfl, key W' hg 16 _ rfl, key W' hg 17 _ rfl, key W' hg 18 _ rfl, key W' hg 19 _ rfl, key W' hg 20 _ rfl, key W' hg 21 _ rfl⟩⟩⟩
set_option maxRecDepth 20000 in
set_option maxHeartbeats 16000000 in
theorem lawVariantNames (w : World) : Calls Tryd.prog 3 #[] w fun e w' => e = .returned (.bool true) ∧ Bel w w' := by
  have hb : Bel w w := Below.refl _ _
  go_enter Tryd.func3, Tryd.ntmps3
  go_wp2_with (fail)
  refine (lives7_any _).mono ?_
  rintro e w1 ⟨rfl, hg⟩
  replace hb := hb.trans' hg
  clear hg
  go_wp2_with (fail)
  refine (kV7 pr7 [vX, vY] 2 #[.string ⟨#[88]⟩, .string ⟨#[89]⟩] rfl rfl (by decide) (by decide +kernel) _).mono ?_
  rintro e w2 ⟨⟨a1, HA1, rfl⟩, hg⟩
  replace hb := hb.trans' hg
  clear hg
  go_wp2_with (fail)
  refine (kV7 pr7 [vY, vX] 2 #[.string ⟨#[89]⟩, .string ⟨#[88]⟩] rfl rfl (by decide) (by decide +kernel) _).mono ?_
  rintro e w3 ⟨⟨a2, HA2, rfl⟩, hg⟩
  replace hb := hb.trans' hg
  clear hg
  go_wp2_with (fail)
  refine (kV7 pr7 [vX, vX] 2 #[.string ⟨#[88]⟩, .string ⟨#[88]⟩] rfl rfl (by decide) (by decide +kernel) _).mono ?_
  rintro e w4 ⟨⟨a3, HA3, rfl⟩, hg⟩
  replace hb := hb.trans' hg
  clear hg
  obtain ⟨y1, hy1⟩ : ∃ y, y = y01 := ⟨_, rfl⟩
  obtain ⟨y3, hy3⟩ : ∃ y, y = y00 := ⟨_, rfl⟩
  obtain ⟨x6, hx6⟩ : ∃ y, y = atV pr7 [v1, v0] := ⟨_, rfl⟩
  obtain ⟨x8, hx8⟩ : ∃ y, y = atV op7 [] := ⟨_, rfl⟩
  obtain ⟨kt, hkt⟩ : ∃ k, k = textD y00 := ⟨_, rfl⟩
  have s1 : AtomSm a1 := by rw [HA1.out]; exact smV _ _ (by decide) (by decide) (by decide +kernel)
  have s2 : AtomSm a2 := by rw [HA2.out]; exact smV _ _ (by decide) (by decide) (by decide +kernel)
  have s3 : AtomSm a3 := by rw [HA3.out]; exact smV _ _ (by decide) (by decide) (by decide +kernel)
  have s6 : AtomSm x6 := by rw [hx6]; exact smV _ _ (by decide) (by decide) (by decide +kernel)
  have s8 : AtomSm x8 := by rw [hx8]; exact smV _ _ (by decide) (by decide) (by decide +kernel)
  have HOK : RowKit.Hid (∀ x ∈ [a2, a1, a3, a2], AtomOk x ∧ AtomSm x) := Lib.hid (fun x hx => by
    simp only [List.mem_cons, List.mem_nil_iff, or_false] at hx
    rcases hx with rfl | rfl | rfl | rfl
    · exact ⟨by rw [HA2.out]; exact ok7 _ _ (by decide) (by decide) (by decide +kernel), s2⟩
    · exact ⟨by rw [HA1.out]; exact ok7 _ _ (by decide) (by decide) (by decide +kernel), s1⟩
    · exact ⟨by rw [HA3.out]; exact ok7 _ _ (by decide) (by decide) (by decide +kernel), s3⟩
    · exact ⟨by rw [HA2.out]; exact ok7 _ _ (by decide) (by decide) (by decide +kernel), s2⟩)
  have HD : RowKit.Hid (distinctD [a2, a1, a3, a2] = [y1, y3]) := Lib.hid (by rw [HA1.out, HA2.out, HA3.out, hy1, hy3]; exact nm_8)
  have HD2 : RowKit.Hid ((distinctD [a2, a1, a3, a2]).length = 2) := Lib.hid (by rw [HD.out]; rfl)
  have hS2 := Lib.hid (fun W => SameV_any a1 a2 W s1.args s2.args)
  rw [show eqA (canonD a1) (canonD a2) = true by rw [HA1.out, HA2.out, nm_1, nm_2]; exact eqA_self _] at hS2
  have hS3 := Lib.hid (fun W => SameV_any a1 a3 W s1.args s3.args)
  rw [show eqA (canonD a1) (canonD a3) = false by rw [HA1.out, HA3.out, nm_1, nm_3]; exact nm_6] at hS3
  have hK3 := Lib.hid (fun W => KeyV_any a3 W s3)
  rw [show textD (canonD a3) = kt by rw [HA3.out, nm_3, hkt]] at hK3
  have hC1 := Lib.hid (fun W => Canon_any a1 W s1.args)
  rw [show canonD a1 = y1 by rw [HA1.out, nm_1, hy1]] at hC1
  have hC3 := Lib.hid (fun W => Canon_any a3 W s3.args)
  rw [show canonD a3 = y3 by rw [HA3.out, nm_3, hy3]] at hC3
  have hC6 := Lib.hid (fun W => Canon_any x6 W s6.args)
  rw [show canonD x6 = y1 by rw [hx6, nm_4, hy1]] at hC6
  have hC8 := Lib.hid (fun W => Canon_any x8 W s8.args)
  rw [show canonD x8 = x8 by rw [hx8, nm_5]] at hC8
  have hk : (kt.toList == [97, 108, 105, 99, 101, 32, 115, 97, 121, 115, 32, 112, 40, 86, 48, 44, 32, 86, 48, 41]) = true := by rw [hkt, nm_7]; rfl
  have hc1 := eql_atom y1 y1
  rw [eqA_self y1] at hc1
  have hc3 := eql_atom y3 y3
  rw [eqA_self y3] at hc3
  have hc8 := eql_atom x8 x8
  rw [eqA_self x8] at hc8
  have HY1 : RowKit.Hid (y1 = atV pr7 [v0, v1]) := Lib.hid hy1
  have HX6 := Lib.hid hx6
  have HX8 := Lib.hid hx8
  clear s1 s2 s3 s6 s8 hy1 hy3 hx6 hx8 hkt HA1 HA2 HA3
  have g1 := bel_alloc w4 (.cells #[.string a1.says, .string a1.pred, .int .i64 a1.n, .bool a1.t0.v, .string a1.t0.name, .bool a1.t1.v, .string a1.t1.name, .bool a1.t2.v, .string a1.t2.name, .bool a1.t3.v, .string a1.t3.name] 27)
  have g2 := bel_alloc (w4.alloc (.cells #[.string a1.says, .string a1.pred, .int .i64 a1.n, .bool a1.t0.v, .string a1.t0.name, .bool a1.t1.v, .string a1.t1.name, .bool a1.t2.v, .string a1.t2.name, .bool a1.t3.v, .string a1.t3.name] 27)) (.cells #[.string a2.says, .string a2.pred, .int .i64 a2.n, .bool a2.t0.v, .string a2.t0.name, .bool a2.t1.v, .string a2.t1.name, .bool a2.t2.v, .string a2.t2.name, .bool a2.t3.v, .string a2.t3.name] 27)
  have g3 := bel_alloc ((w4.alloc (.cells #[.string a1.says, .string a1.pred, .int .i64 a1.n, .bool a1.t0.v, .string a1.t0.name, .bool a1.t1.v, .string a1.t1.name, .bool a1.t2.v, .string a1.t2.name, .bool a1.t3.v, .string a1.t3.name] 27)).alloc (.cells #[.string a2.says, .string a2.pred, .int .i64 a2.n, .bool a2.t0.v, .string a2.t0.name, .bool a2.t1.v, .string a2.t1.name, .bool a2.t2.v, .string a2.t2.name, .bool a2.t3.v, .string a2.t3.name] 27)) (.cells #[.string a3.says, .string a3.pred, .int .i64 a3.n, .bool a3.t0.v, .string a3.t0.name, .bool a3.t1.v, .string a3.t1.name, .bool a3.t2.v, .string a3.t2.name, .bool a3.t3.v, .string a3.t3.name] 27)
  have g4 := bel_alloc (((w4.alloc (.cells #[.string a1.says, .string a1.pred, .int .i64 a1.n, .bool a1.t0.v, .string a1.t0.name, .bool a1.t1.v, .string a1.t1.name, .bool a1.t2.v, .string a1.t2.name, .bool a1.t3.v, .string a1.t3.name] 27)).alloc (.cells #[.string a2.says, .string a2.pred, .int .i64 a2.n, .bool a2.t0.v, .string a2.t0.name, .bool a2.t1.v, .string a2.t1.name, .bool a2.t2.v, .string a2.t2.name, .bool a2.t3.v, .string a2.t3.name] 27)).alloc (.cells #[.string a3.says, .string a3.pred, .int .i64 a3.n, .bool a3.t0.v, .string a3.t0.name, .bool a3.t1.v, .string a3.t1.name, .bool a3.t2.v, .string a3.t2.name, .bool a3.t3.v, .string a3.t3.name] 27)) (.cells #[(.string a2.says), (.string a2.pred), (.int .i64 a2.n), (.bool a2.t0.v), (.string a2.t0.name), (.bool a2.t1.v), (.string a2.t1.name), (.bool a2.t2.v), (.string a2.t2.name), (.bool a2.t3.v), (.string a2.t3.name), (.string a1.says), (.string a1.pred), (.int .i64 a1.n), (.bool a1.t0.v), (.string a1.t0.name), (.bool a1.t1.v), (.string a1.t1.name), (.bool a1.t2.v), (.string a1.t2.name), (.bool a1.t3.v), (.string a1.t3.name), (.string a3.says), (.string a3.pred), (.int .i64 a3.n), (.bool a3.t0.v), (.string a3.t0.name), (.bool a3.t1.v), (.string a3.t1.name), (.bool a3.t2.v), (.string a3.t2.name), (.bool a3.t3.v), (.string a3.t3.name), (.string a2.says), (.string a2.pred), (.int .i64 a2.n), (.bool a2.t0.v), (.string a2.t0.name), (.bool a2.t1.v), (.string a2.t1.name), (.bool a2.t2.v), (.string a2.t2.name), (.bool a2.t3.v), (.string a2.t3.name)] 27)
  have hP1 := ((AtomAt.new w4 a1).bel g2).bel g3
  have hP2 := (AtomAt.new (w4.alloc (.cells #[.string a1.says, .string a1.pred, .int .i64 a1.n, .bool a1.t0.v, .string a1.t0.name, .bool a1.t1.v, .string a1.t1.name, .bool a1.t2.v, .string a1.t2.name, .bool a1.t3.v, .string a1.t3.name] 27)) a2).bel g3
  have hP3 := AtomAt.new ((w4.alloc (.cells #[.string a1.says, .string a1.pred, .int .i64 a1.n, .bool a1.t0.v, .string a1.t0.name, .bool a1.t1.v, .string a1.t1.name, .bool a1.t2.v, .string a1.t2.name, .bool a1.t3.v, .string a1.t3.name] 27)).alloc (.cells #[.string a2.says, .string a2.pred, .int .i64 a2.n, .bool a2.t0.v, .string a2.t0.name, .bool a2.t1.v, .string a2.t1.name, .bool a2.t2.v, .string a2.t2.name, .bool a2.t3.v, .string a2.t3.name] 27)) a3
  rw [show ((w4.alloc (.cells #[.string a1.says, .string a1.pred, .int .i64 a1.n, .bool a1.t0.v, .string a1.t0.name, .bool a1.t1.v, .string a1.t1.name, .bool a1.t2.v, .string a1.t2.name, .bool a1.t3.v, .string a1.t3.name] 27)).alloc (.cells #[.string a2.says, .string a2.pred, .int .i64 a2.n, .bool a2.t0.v, .string a2.t0.name, .bool a2.t1.v, .string a2.t1.name, .bool a2.t2.v, .string a2.t2.name, .bool a2.t3.v, .string a2.t3.name] 27)).heap.size = w4.heap.size + 1 + 1 by simp] at hP3
  rw [show (w4.alloc (.cells #[.string a1.says, .string a1.pred, .int .i64 a1.n, .bool a1.t0.v, .string a1.t0.name, .bool a1.t1.v, .string a1.t1.name, .bool a1.t2.v, .string a1.t2.name, .bool a1.t3.v, .string a1.t3.name] 27)).heap.size = w4.heap.size + 1 by simp] at hP2
  have hAL := SliceAt.lit EA (((w4.alloc (.cells #[.string a1.says, .string a1.pred, .int .i64 a1.n, .bool a1.t0.v, .string a1.t0.name, .bool a1.t1.v, .string a1.t1.name, .bool a1.t2.v, .string a1.t2.name, .bool a1.t3.v, .string a1.t3.name] 27)).alloc (.cells #[.string a2.says, .string a2.pred, .int .i64 a2.n, .bool a2.t0.v, .string a2.t0.name, .bool a2.t1.v, .string a2.t1.name, .bool a2.t2.v, .string a2.t2.name, .bool a2.t3.v, .string a2.t3.name] 27)).alloc (.cells #[.string a3.says, .string a3.pred, .int .i64 a3.n, .bool a3.t0.v, .string a3.t0.name, .bool a3.t1.v, .string a3.t1.name, .bool a3.t2.v, .string a3.t2.name, .bool a3.t3.v, .string a3.t3.name] 27)) 27 [a2, a1, a3, a2] #[(.string a2.says), (.string a2.pred), (.int .i64 a2.n), (.bool a2.t0.v), (.string a2.t0.name), (.bool a2.t1.v), (.string a2.t1.name), (.bool a2.t2.v), (.string a2.t2.name), (.bool a2.t3.v), (.string a2.t3.name), (.string a1.says), (.string a1.pred), (.int .i64 a1.n), (.bool a1.t0.v), (.string a1.t0.name), (.bool a1.t1.v), (.string a1.t1.name), (.bool a1.t2.v), (.string a1.t2.name), (.bool a1.t3.v), (.string a1.t3.name), (.string a3.says), (.string a3.pred), (.int .i64 a3.n), (.bool a3.t0.v), (.string a3.t0.name), (.bool a3.t1.v), (.string a3.t1.name), (.bool a3.t2.v), (.string a3.t2.name), (.bool a3.t3.v), (.string a3.t3.name), (.string a2.says), (.string a2.pred), (.int .i64 a2.n), (.bool a2.t0.v), (.string a2.t0.name), (.bool a2.t1.v), (.string a2.t1.name), (.bool a2.t2.v), (.string a2.t2.name), (.bool a2.t3.v), (.string a2.t3.name)] rfl
  rw [show (((w4.alloc (.cells #[.string a1.says, .string a1.pred, .int .i64 a1.n, .bool a1.t0.v, .string a1.t0.name, .bool a1.t1.v, .string a1.t1.name, .bool a1.t2.v, .string a1.t2.name, .bool a1.t3.v, .string a1.t3.name] 27)).alloc (.cells #[.string a2.says, .string a2.pred, .int .i64 a2.n, .bool a2.t0.v, .string a2.t0.name, .bool a2.t1.v, .string a2.t1.name, .bool a2.t2.v, .string a2.t2.name, .bool a2.t3.v, .string a2.t3.name] 27)).alloc (.cells #[.string a3.says, .string a3.pred, .int .i64 a3.n, .bool a3.t0.v, .string a3.t0.name, .bool a3.t1.v, .string a3.t1.name, .bool a3.t2.v, .string a3.t2.name, .bool a3.t3.v, .string a3.t3.name] 27)).heap.size = w4.heap.size + 1 + 1 + 1 by simp] at hAL
  replace hP1 := Lib.hid (hP1.bel g4)
  replace hP2 := Lib.hid (hP2.bel g4)
  replace hP3 := Lib.hid (hP3.bel g4)
  replace hb := Lib.hid (hb.trans' (((g1.trans' g2).trans' g3).trans' g4))
  have HAL := Lib.hid hAL
  clear g1 g2 g3 g4 hAL
  go_wp2_with (fail)
  refine (DistinctV_any (some ⟨w4.heap.size + 1 + 1 + 1, 0, none⟩) [a2, a1, a3, a2] 4 4 rfl _ HAL.out (by simp) HOK.out).mono ?_
  rintro e w8 ⟨⟨q, c, HO, rfl⟩, hg⟩
  rw [HD2.out]
  have HO2 := HO.out
  rw [HD.out] at HO2
  obtain ⟨g, rfl, hcl⟩ := two_atoms HO2
  have HCL := Lib.hid hcl
  replace hP1 := Lib.hid (hP1.out.bel hg)
  replace hP2 := Lib.hid (hP2.out.bel hg)
  replace hP3 := Lib.hid (hP3.out.bel hg)
  replace hb := Lib.hid (hb.out.trans' hg)
  clear HO2 HO hg hcl HAL HOK HD HD2
  have hd := bel_drew' (Below.refl w8.heap.size w8)
  have hG6 : RowKit.Hid (x6 = x6) := Lib.hid rfl
  have hG9 : RowKit.Hid (y1 = y1) := Lib.hid rfl
  go_wp2
  go_region_held3 (fun w' => (w'.cell? ⟨w4.heap.size, 0, none⟩ = some (.string a1.says) ∧ w'.cell? ⟨w4.heap.size, 1, none⟩ = some (.string a1.pred) ∧ w'.cell? ⟨w4.heap.size, 2, none⟩ = some (.int .i64 a1.n) ∧ w'.cell? ⟨w4.heap.size, 3, none⟩ = some (.bool a1.t0.v) ∧ w'.cell? ⟨w4.heap.size, 4, none⟩ = some (.string a1.t0.name) ∧ w'.cell? ⟨w4.heap.size, 5, none⟩ = some (.bool a1.t1.v) ∧ w'.cell? ⟨w4.heap.size, 6, none⟩ = some (.string a1.t1.name) ∧ w'.cell? ⟨w4.heap.size, 7, none⟩ = some (.bool a1.t2.v) ∧ w'.cell? ⟨w4.heap.size, 8, none⟩ = some (.string a1.t2.name) ∧ w'.cell? ⟨w4.heap.size, 9, none⟩ = some (.bool a1.t3.v) ∧ w'.cell? ⟨w4.heap.size, 10, none⟩ = some (.string a1.t3.name)) ∧ (w'.cell? ⟨w4.heap.size + 1, 0, none⟩ = some (.string a2.says) ∧ w'.cell? ⟨w4.heap.size + 1, 1, none⟩ = some (.string a2.pred) ∧ w'.cell? ⟨w4.heap.size + 1, 2, none⟩ = some (.int .i64 a2.n) ∧ w'.cell? ⟨w4.heap.size + 1, 3, none⟩ = some (.bool a2.t0.v) ∧ w'.cell? ⟨w4.heap.size + 1, 4, none⟩ = some (.string a2.t0.name) ∧ w'.cell? ⟨w4.heap.size + 1, 5, none⟩ = some (.bool a2.t1.v) ∧ w'.cell? ⟨w4.heap.size + 1, 6, none⟩ = some (.string a2.t1.name) ∧ w'.cell? ⟨w4.heap.size + 1, 7, none⟩ = some (.bool a2.t2.v) ∧ w'.cell? ⟨w4.heap.size + 1, 8, none⟩ = some (.string a2.t2.name) ∧ w'.cell? ⟨w4.heap.size + 1, 9, none⟩ = some (.bool a2.t3.v) ∧ w'.cell? ⟨w4.heap.size + 1, 10, none⟩ = some (.string a2.t3.name)) ∧ (w'.cell? ⟨w4.heap.size + 1 + 1, 0, none⟩ = some (.string a3.says) ∧ w'.cell? ⟨w4.heap.size + 1 + 1, 1, none⟩ = some (.string a3.pred) ∧ w'.cell? ⟨w4.heap.size + 1 + 1, 2, none⟩ = some (.int .i64 a3.n) ∧ w'.cell? ⟨w4.heap.size + 1 + 1, 3, none⟩ = some (.bool a3.t0.v) ∧ w'.cell? ⟨w4.heap.size + 1 + 1, 4, none⟩ = some (.string a3.t0.name) ∧ w'.cell? ⟨w4.heap.size + 1 + 1, 5, none⟩ = some (.bool a3.t1.v) ∧ w'.cell? ⟨w4.heap.size + 1 + 1, 6, none⟩ = some (.string a3.t1.name) ∧ w'.cell? ⟨w4.heap.size + 1 + 1, 7, none⟩ = some (.bool a3.t2.v) ∧ w'.cell? ⟨w4.heap.size + 1 + 1, 8, none⟩ = some (.string a3.t2.name) ∧ w'.cell? ⟨w4.heap.size + 1 + 1, 9, none⟩ = some (.bool a3.t3.v) ∧ w'.cell? ⟨w4.heap.size + 1 + 1, 10, none⟩ = some (.string a3.t3.name)) ∧ (w'.cell? ⟨g, 0, none⟩ = some (.string y1.says) ∧ w'.cell? ⟨g, 1, none⟩ = some (.string y1.pred) ∧ w'.cell? ⟨g, 2, none⟩ = some (.int .i64 y1.n) ∧ w'.cell? ⟨g, 3, none⟩ = some (.bool y1.t0.v) ∧ w'.cell? ⟨g, 4, none⟩ = some (.string y1.t0.name) ∧ w'.cell? ⟨g, 5, none⟩ = some (.bool y1.t1.v) ∧ w'.cell? ⟨g, 6, none⟩ = some (.string y1.t1.name) ∧ w'.cell? ⟨g, 7, none⟩ = some (.bool y1.t2.v) ∧ w'.cell? ⟨g, 8, none⟩ = some (.string y1.t2.name) ∧ w'.cell? ⟨g, 9, none⟩ = some (.bool y1.t3.v) ∧ w'.cell? ⟨g, 10, none⟩ = some (.string y1.t3.name)) ∧ (w'.cell? ⟨g, 11, none⟩ = some (.string y3.says) ∧ w'.cell? ⟨g, 12, none⟩ = some (.string y3.pred) ∧ w'.cell? ⟨g, 13, none⟩ = some (.int .i64 y3.n) ∧ w'.cell? ⟨g, 14, none⟩ = some (.bool y3.t0.v) ∧ w'.cell? ⟨g, 15, none⟩ = some (.string y3.t0.name) ∧ w'.cell? ⟨g, 16, none⟩ = some (.bool y3.t1.v) ∧ w'.cell? ⟨g, 17, none⟩ = some (.string y3.t1.name) ∧ w'.cell? ⟨g, 18, none⟩ = some (.bool y3.t2.v) ∧ w'.cell? ⟨g, 19, none⟩ = some (.string y3.t2.name) ∧ w'.cell? ⟨g, 20, none⟩ = some (.bool y3.t3.v) ∧ w'.cell? ⟨g, 21, none⟩ = some (.string y3.t3.name))) (first | (with_reducible exact ⟨(hP1.out.bel hd).cells, (hP2.out.bel hd).cells, (hP3.out.bel hd).cells, HCL.out _ hd⟩) | (with_reducible exact ⟨(hP1.out.bel (hd.trans' (bel_alloc _ _))).cells, (hP2.out.bel (hd.trans' (bel_alloc _ _))).cells, (hP3.out.bel (hd.trans' (bel_alloc _ _))).cells, HCL.out _ (hd.trans' (bel_alloc _ _))⟩) | (with_reducible exact ⟨(hP1.out.bel ((hd.trans' (bel_alloc _ _)).trans' (bel_alloc _ _))).cells, (hP2.out.bel ((hd.trans' (bel_alloc _ _)).trans' (bel_alloc _ _))).cells, (hP3.out.bel ((hd.trans' (bel_alloc _ _)).trans' (bel_alloc _ _))).cells, HCL.out _ ((hd.trans' (bel_alloc _ _)).trans' (bel_alloc _ _))⟩) | exact ⟨(hP1.out.bel hd).cells, (hP2.out.bel hd).cells, (hP3.out.bel hd).cells, HCL.out _ hd⟩ | exact ⟨(hP1.out.bel (hd.trans' (bel_alloc _ _))).cells, (hP2.out.bel (hd.trans' (bel_alloc _ _))).cells, (hP3.out.bel (hd.trans' (bel_alloc _ _))).cells, HCL.out _ (hd.trans' (bel_alloc _ _))⟩ | exact ⟨(hP1.out.bel ((hd.trans' (bel_alloc _ _)).trans' (bel_alloc _ _))).cells, (hP2.out.bel ((hd.trans' (bel_alloc _ _)).trans' (bel_alloc _ _))).cells, (hP3.out.bel ((hd.trans' (bel_alloc _ _)).trans' (bel_alloc _ _))).cells, HCL.out _ ((hd.trans' (bel_alloc _ _)).trans' (bel_alloc _ _))⟩ | go_keep | trivial)
    (first | (go_at_call 11; have gate := hS2; refine (hS2.out _).mono ?_; rintro e w9 ⟨rfl, hg⟩; clear gate hS2; replace hd := hd.trans' hg; clear hg) | (go_at_call 11; refine (hS3.out _).mono ?_; rintro e w9 ⟨rfl, hg⟩; replace hd := hd.trans' hg; clear hg) | (go_at_call 12; refine (hK3.out _).mono ?_; rintro e w9 ⟨rfl, hg⟩; replace hd := hd.trans' hg; clear hg) | (go_at_call 13; have gate := hC1; refine (hC1.out _).mono ?_; rintro e w9 ⟨⟨q9, HQ9, rfl⟩, hg⟩; obtain rfl := HQ9.out; clear gate hC1; replace hd := hd.trans' hg; clear hg) | (go_at_call 13; have gate := hC3; refine (hC3.out _).mono ?_; rintro e w9 ⟨⟨q9, HQ9, rfl⟩, hg⟩; obtain rfl := HQ9.out; clear gate hC3; replace hd := hd.trans' hg; clear hg) | (go_at_call 9; have gate := hG6; refine (kVL pr7 [v1, v0] 2 rfl (by decide) (by decide +kernel) _ _ (by first | exact lit_in w9 _ [v1, v0] #[.string ⟨#[86, 49]⟩, .string ⟨#[86, 48]⟩] 2 rfl rfl (Below.refl _ _) _ rfl | exact lit_in w9 _ [v1, v0] #[.string ⟨#[86, 49]⟩, .string ⟨#[86, 48]⟩] 2 rfl rfl (bel_alloc _ _) _ rfl | exact lit_in (w9.alloc (.cells #[.string ⟨#[86, 48]⟩, .string ⟨#[86, 49]⟩] 9)) _ [v1, v0] #[.string ⟨#[86, 49]⟩, .string ⟨#[86, 48]⟩] 2 rfl rfl (Below.refl _ _) _ (alloc_size _ _))).mono ?_; rintro e wA ⟨⟨q9, HQ9, rfl⟩, hg⟩; obtain rfl := HQ9.out.trans HX6.out.symm; clear gate hG6; have hgA := hg; (first | replace hd := hd.trans' hg | replace hd := (hd.trans' (bel_alloc _ _)).trans' hg | replace hd := ((hd.trans' (bel_alloc _ _)).trans' (bel_alloc _ _)).trans' hg); clear hg) | (go_at_call 13; have gate := hC6; refine (hC6.out _).mono ?_; rintro e wB ⟨⟨q9, HQ9, rfl⟩, hg⟩; obtain rfl := HQ9.out; clear gate hC6; have hgB := hg; (first | replace hd := hd.trans' hg | replace hd := (hd.trans' (bel_alloc _ _)).trans' hg | replace hd := ((hd.trans' (bel_alloc _ _)).trans' (bel_alloc _ _)).trans' hg); clear hg) | (go_at_call 9; have gate := hG9; refine (kVL pr7 [v0, v1] 2 rfl (by decide) (by decide +kernel) _ _ (by first | exact lit_in wB _ [v0, v1] #[.string ⟨#[86, 48]⟩, .string ⟨#[86, 49]⟩] 2 rfl rfl (Below.refl _ _) _ rfl | exact lit_in wA _ [v0, v1] #[.string ⟨#[86, 48]⟩, .string ⟨#[86, 49]⟩] 2 rfl rfl hgB _ rfl | exact lit_in w9 _ [v0, v1] #[.string ⟨#[86, 48]⟩, .string ⟨#[86, 49]⟩] 2 rfl rfl ((bel_alloc _ _).trans' (hgA.trans' hgB)) _ rfl | exact lit_in w9 _ [v0, v1] #[.string ⟨#[86, 48]⟩, .string ⟨#[86, 49]⟩] 2 rfl rfl ((bel_alloc _ _).trans' (hgA.trans' ((bel_alloc _ _).trans' hgB))) _ rfl | exact lit_in (w9.alloc (.cells #[.string ⟨#[86, 49]⟩, .string ⟨#[86, 48]⟩] 9)) _ [v0, v1] #[.string ⟨#[86, 48]⟩, .string ⟨#[86, 49]⟩] 2 rfl rfl (hgA.trans' hgB) _ (alloc_size _ _))).mono ?_; rintro e wC ⟨⟨q9, HQ9, rfl⟩, hg⟩; obtain rfl := HQ9.out.trans HY1.out.symm; clear gate hG9; (first | replace hd := hd.trans' hg | replace hd := (hd.trans' (bel_alloc _ _)).trans' hg | replace hd := ((hd.trans' (bel_alloc _ _)).trans' (bel_alloc _ _)).trans' hg); clear hg) | (go_at_call 9; refine (kV0 op7 _).mono ?_; rintro e wD ⟨⟨q9, HQ9, rfl⟩, hg⟩; obtain rfl := HQ9.out.trans HX8.out.symm; replace hd := hd.trans' hg; clear hg) | (go_at_call 13; refine (hC8.out _).mono ?_; rintro e wE ⟨⟨q9, HQ9, rfl⟩, hg⟩; obtain rfl := HQ9.out; replace hd := hd.trans' hg; clear hg))
  all_goals go_wp2
  all_goals go_ret
  all_goals exact ⟨rfl, hb.out.trans' hd⟩
end Go.Proofs.YtiokjjiakcbmhaaDoor
