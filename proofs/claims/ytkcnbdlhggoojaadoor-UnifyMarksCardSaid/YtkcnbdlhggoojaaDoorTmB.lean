/-
  The walks of the small functions on terms: which are valid, how many of an atom count. Conditions: as each says.
-/
import Derived.Test.YtkcnbdlhggoojaaDoorTmA
import Derived.Handy
import Derived.Lib.MinMax
namespace Go.Proofs.YtkcnbdlhggoojaaDoor
open Go.RowKit

def termB (t : TermD) : Bool := if t.v then variB t.name else consB t.name
def cntI (n : Int) : Nat := (min (max n 0) 4).toNat
def cntD (a : AtomD) : Nat := cntI a.n
theorem cntI_le (n : Int) : cntI n ≤ 4 := by unfold cntI; omega
theorem cnt_int (n : Int) : min (max n 0) 4 = (cntI n : Int) := by unfold cntI; omega

/-- what an atom is as a value -/
theorem bel_alloc (w : World) (o : Obj) : Bel w (w.alloc o) := Below.alloc (Below.refl _ _) (Nat.le_refl _) _
theorem bel_alloc2 {w w' : World} {o : Obj} (h : Bel (w.alloc o) w') : Bel w w' := (bel_alloc w o).trans' h

set_option maxHeartbeats 400000 in
theorem rTerm_any (v : Bool) (s : ByteArray) (w : World) (hs : s.size ≤ maxLen) :
    Calls Tryd.prog 33 #[.agg #[.bool v, .string s]] w fun e w' => e = .returned (.bool (termB ⟨v, s⟩)) ∧ Bel w w' := by
  unfold termB
  cases v
  · go_enter Tryd.func33, Tryd.ntmps33
    go_wp2_with (go_at_call 50; refine (rConstant_any _ _ hs).mono ?_; rintro e w1 ⟨rfl, hg⟩)
    go_ret
    exact ⟨rfl, bel_alloc2 hg⟩
  · go_enter Tryd.func33, Tryd.ntmps33
    go_wp2_with (go_at_call 52; refine (rVariable_any _ _ hs).mono ?_; rintro e w1 ⟨rfl, rfl⟩)
    go_ret
    exact ⟨rfl, bel_alloc _ _⟩
set_option maxHeartbeats 400000 in
theorem rCount_any (s p : ByteArray) (n : Int) (c0 c1 c2 c3 c4 c5 c6 c7 : Value) (w : World) :
    Calls Tryd.prog 37 #[.agg #[.string s, .string p, .int .i64 n, c0, c1, c2, c3, c4, c5, c6, c7]] w fun e w' => e = .returned (.int .i64 (cntI n)) ∧ Bel w w' := by
  have h := cnt_int n
  go_enter Tryd.func37, Tryd.ntmps37
  go_wp2
  go_ret
  exact ⟨rfl, bel_alloc _ _⟩
def lightA (a : AtomD) : Bool := decide ((a.says.size : Int) ≤ 300) && decide ((a.pred.size : Int) ≤ 300) && decide ((a.t0.name.size : Int) ≤ 300) && decide ((a.t1.name.size : Int) ≤ 300) && decide ((a.t2.name.size : Int) ≤ 300) && decide ((a.t3.name.size : Int) ≤ 300)
/-- the strings of an atom fit -/
structure AtomOk (a : AtomD) : Prop where
  says : a.says.size ≤ 9223372036854775807
  pred : a.pred.size ≤ 9223372036854775807
  n : -9223372036854775808 ≤ a.n ∧ a.n ≤ 9223372036854775807
  t0 : a.t0.name.size ≤ 9223372036854775807
  t1 : a.t1.name.size ≤ 9223372036854775807
  t2 : a.t2.name.size ≤ 9223372036854775807
  t3 : a.t3.name.size ≤ 9223372036854775807
theorem ret_bool {a b : Bool} (h : a = b) : Ending.returned (.bool a) = .returned (.bool b) := by rw [h]
theorem ret_int {a b : Int} (h : a = b) : Ending.returned (.int .i64 a) = .returned (.int .i64 b) := by rw [h]
set_option maxHeartbeats 2000000 in
theorem light_any (a : AtomD) (w : World) (ha : AtomOk a) :
    Calls Tryd.prog 14 #[.agg #[.string a.says, .string a.pred, .int .i64 a.n, .bool a.t0.v, .string a.t0.name, .bool a.t1.v, .string a.t1.name, .bool a.t2.v, .string a.t2.name, .bool a.t3.v, .string a.t3.name]] w fun e w' => e = .returned (.bool (lightA a)) ∧ Bel w w' := by
  obtain ⟨h1, h2, _, h3, h4, h5, h6⟩ := ha
  have hL : lightA a = (decide ((a.says.size : Int) ≤ 300) && decide ((a.pred.size : Int) ≤ 300) && decide ((a.t0.name.size : Int) ≤ 300) && decide ((a.t1.name.size : Int) ≤ 300) && decide ((a.t2.name.size : Int) ≤ 300) && decide ((a.t3.name.size : Int) ≤ 300)) := rfl
  have HL := Lib.hid hL
  clear hL
  rcases Bool.eq_false_or_eq_true (decide ((a.says.size : Int) ≤ 300)) with q1 | q1 <;> rcases Bool.eq_false_or_eq_true (decide ((a.pred.size : Int) ≤ 300)) with q2 | q2
  all_goals
    go_enter Tryd.func14, Tryd.ntmps14
    go_wp2
    go_rounds 5
    all_goals go_ret
    all_goals
      refine ⟨ret_bool ?_, bel_alloc _ _⟩
      rw [HL.out, Bool.eq_iff_iff]
      simp only [decide_eq_true_eq, decide_eq_false_iff_not] at q1 q2
      simp only [Bool.and_eq_true, decide_eq_true_eq, Bool.false_eq_true, false_iff]
      first | omega | (simp only [eq_self_iff_true, true_iff]; omega)

/-- block b is the atom a -/
def AtomAt (w : World) (b : Nat) (a : AtomD) : Prop := w.heap[b]? = some (.cells #[.string a.says, .string a.pred, .int .i64 a.n, .bool a.t0.v, .string a.t0.name, .bool a.t1.v, .string a.t1.name, .bool a.t2.v, .string a.t2.name, .bool a.t3.v, .string a.t3.name] 30)
theorem AtomAt.new (w : World) (a : AtomD) : AtomAt (w.alloc (.cells #[.string a.says, .string a.pred, .int .i64 a.n, .bool a.t0.v, .string a.t0.name, .bool a.t1.v, .string a.t1.name, .bool a.t2.v, .string a.t2.name, .bool a.t3.v, .string a.t3.name] 30)) w.heap.size a := heap_alloc_new _ _
theorem AtomAt.lt {w : World} {b : Nat} {a : AtomD} (h : AtomAt w b a) : b < w.heap.size := (Array.getElem?_eq_some_iff.1 h).1
theorem AtomAt.bel {w w' : World} {b : Nat} {a : AtomD} (h : AtomAt w b a) (hg : Bel w w') : AtomAt w' b a := (hg.block b h.lt).trans h
theorem AtomAt.cells {w : World} {b : Nat} {a : AtomD} (h : AtomAt w b a) : w.cell? ⟨b, 0, none⟩ = some (.string a.says) ∧ w.cell? ⟨b, 1, none⟩ = some (.string a.pred) ∧ w.cell? ⟨b, 2, none⟩ = some (.int .i64 a.n) ∧
    w.cell? ⟨b, 3, none⟩ = some (.bool a.t0.v) ∧ w.cell? ⟨b, 4, none⟩ = some (.string a.t0.name) ∧ w.cell? ⟨b, 5, none⟩ = some (.bool a.t1.v) ∧ w.cell? ⟨b, 6, none⟩ = some (.string a.t1.name) ∧
    w.cell? ⟨b, 7, none⟩ = some (.bool a.t2.v) ∧ w.cell? ⟨b, 8, none⟩ = some (.string a.t2.name) ∧ w.cell? ⟨b, 9, none⟩ = some (.bool a.t3.v) ∧ w.cell? ⟨b, 10, none⟩ = some (.string a.t3.name) := by
  unfold AtomAt at h
  refine ⟨?_, ?_, ?_, ?_, ?_, ?_, ?_, ?_, ?_, ?_, ?_⟩ <;> simp [World.cell?, h]

def groundD (a : AtomD) : Bool := ((argsD a).take (cntD a)).all (fun t => !t.v)
set_option maxRecDepth 20000 in
set_option maxHeartbeats 4000000 in
theorem rGround_any (a : AtomD) (w : World) :
    Calls Tryd.prog 20 #[.agg #[.string a.says, .string a.pred, .int .i64 a.n, .bool a.t0.v, .string a.t0.name, .bool a.t1.v, .string a.t1.name, .bool a.t2.v, .string a.t2.name, .bool a.t3.v, .string a.t3.name]] w fun e w' => e = .returned (.bool (groundD a)) ∧ Bel w w' := by
  unfold groundD
  unfold cntD
  obtain ⟨k, hk, hk4⟩ : ∃ k, cntI a.n = k ∧ k ≤ 4 := ⟨_, rfl, cntI_le _⟩
  have HK := Lib.hid hk
  obtain ⟨g, hg⟩ : ∃ g, (((argsD a).take (cntI a.n)).all (fun t => !t.v)) = g := ⟨_, rfl⟩
  rw [hg]
  rw [hk] at hg
  have HG := Lib.hid hg
  clear hg hk
  have hA := AtomAt.new w a
  have hb := bel_alloc w (.cells #[.string a.says, .string a.pred, .int .i64 a.n, .bool a.t0.v, .string a.t0.name, .bool a.t1.v, .string a.t1.name, .bool a.t2.v, .string a.t2.name, .bool a.t3.v, .string a.t3.name] 30)
  obtain rfl | rfl | rfl | rfl | rfl : k = 0 ∨ k = 1 ∨ k = 2 ∨ k = 3 ∨ k = 4 := by omega
  all_goals
    go_enter Tryd.func20, Tryd.ntmps20
    go_wp2
    refine wp_loop_rounds 5 ?_
    repeat any_goals (rw [rounds_succ]; go_wp2_with (go_at_call 37; refine (rCount_any _ _ _ _ _ _ _ _ _ _ _ _).mono ?_; rw [HK.out]; rintro e w1 ⟨rfl, hg⟩; have hA := hA.bel hg; obtain ⟨c0, c1, c2, c3, c4, c5, c6, c7, c8, c9, c10⟩ := hA.cells; have hb := hb.trans' hg; clear hg))
    all_goals go_ret
    all_goals
      refine ⟨ret_bool ?_, hb⟩
      rw [← HG.out]
      clear HG HK hA hb
      simp [argsD, *]
end Go.Proofs.YtkcnbdlhggoojaaDoor
