/-
  The law UnifyMarks for every input. Conditions: what came in lies as its parameters' types say; the library's table of tens lies as it is laid.
-/
import Derived.Test.YtkcnbdlhggoojaaDoorUnK
import Derived.Test.YtkcnbdlhggoojaaDoorUnV
import Derived.Test.YtkcnbdlhggoojaaDoorUnL
import Derived.Test.YtkcnbdlhggoojaaDoorTmM
import Derived.Test.YtkcnbdlhggoojaaDoorKitP
import Derived.IntWalk
namespace Go.Proofs.YtkcnbdlhggoojaaDoor
open Go.RowKit

theorem ListAt.belY {w w' : World} {A : Option Addr} {n : Nat} {xs : List Value} (h : ListAt w A n xs) (hg : Bel w w') : ListAt w' A n xs := by
  obtain ⟨h1, h2⟩ := h
  refine ⟨h1, ?_⟩
  rcases h2 with h0 | ⟨b, o, e, hb, hc⟩
  · exact .inl h0
  · exact .inr ⟨b, o, e, Nat.lt_of_lt_of_le hb hg.size, fun j u hu => cell_bel (hc j u hu) hg⟩
theorem pos_of_ne {x : ByteArray} (h : x ≠ emp) : 0 < x.size := by
  rcases Nat.eq_zero_or_pos x.size with h0 | h0
  · exact absurd (ba_extB (by
      have h1 : x.data.toList.length = 0 := (ba_lenB x).trans h0
      rw [List.length_eq_zero_iff.1 h1]; rfl)) h
  · exact h0
theorem ren_up (a : AtomD) (i : Nat) (W : World) (hi : i < 100000000) (hI : ItoaAt W (i + 1)) (hs : ∀ t ∈ argsD a, t.name.size ≤ 1000) :
    Calls Tryd.prog 10 #[.agg #[.string a.says, .string a.pred, .int .i64 a.n, .bool a.t0.v, .string a.t0.name, .bool a.t1.v, .string a.t1.name, .bool a.t2.v, .string a.t2.name, .bool a.t3.v, .string a.t3.name], .int .i64 ((i : Int) + 1)] W fun e w' => (∃ q, RowKit.Hid (q = renD a (i + 1)) ∧ e = .returned (.agg #[.string q.says, .string q.pred, .int .i64 q.n, .bool q.t0.v, .string q.t0.name, .bool q.t1.v, .string q.t1.name, .bool q.t2.v, .string q.t2.name, .bool q.t3.v, .string q.t3.name])) ∧ Bel W w' := Rename_any a (i + 1) W (by omega) hI hs
theorem vars_sm {a : AtomD} (h : AtomSm a) {x : ByteArray} (hx : x ∈ varsA a) : x.size ≤ 1000 := by
  obtain ⟨t, ht, _, rfl⟩ := (names_mem true _ _).1 hx
  exact h.args t (List.mem_of_mem_take ht)
set_option maxRecDepth 20000 in
set_option maxHeartbeats 16000000 in
theorem lawUnifyMarks (a b : AtomD) (n m : Int) (w : World) (hak : AtomOk a) (hbk : AtomOk b) (hn : -9223372036854775808 ≤ n ∧ n ≤ 9223372036854775807) (hm : -9223372036854775808 ≤ m ∧ m ≤ 9223372036854775807) (hIt : ∀ j : Nat, j < 1000000000 → ItoaAt w j) :
    Calls Tryd.prog 4 #[.agg #[.string a.says, .string a.pred, .int .i64 a.n, .bool a.t0.v, .string a.t0.name, .bool a.t1.v, .string a.t1.name, .bool a.t2.v, .string a.t2.name, .bool a.t3.v, .string a.t3.name], .agg #[.string b.says, .string b.pred, .int .i64 b.n, .bool b.t0.v, .string b.t0.name, .bool b.t1.v, .string b.t1.name, .bool b.t2.v, .string b.t2.name, .bool b.t3.v, .string b.t3.name], .int .i64 n, .int .i64 m] w fun e w' => e = .returned (.bool true) ∧ Bel w w' := by
  have hA := AtomAt.new w a
  replace hA := hA.bel (bel_alloc (w.alloc (.cells #[.string a.says, .string a.pred, .int .i64 a.n, .bool a.t0.v, .string a.t0.name, .bool a.t1.v, .string a.t1.name, .bool a.t2.v, .string a.t2.name, .bool a.t3.v, .string a.t3.name] 30)) (.cells #[.string b.says, .string b.pred, .int .i64 b.n, .bool b.t0.v, .string b.t0.name, .bool b.t1.v, .string b.t1.name, .bool b.t2.v, .string b.t2.name, .bool b.t3.v, .string b.t3.name] 30))
  have hB := AtomAt.new (w.alloc (.cells #[.string a.says, .string a.pred, .int .i64 a.n, .bool a.t0.v, .string a.t0.name, .bool a.t1.v, .string a.t1.name, .bool a.t2.v, .string a.t2.name, .bool a.t3.v, .string a.t3.name] 30)) b
  rw [show (w.alloc (.cells #[.string a.says, .string a.pred, .int .i64 a.n, .bool a.t0.v, .string a.t0.name, .bool a.t1.v, .string a.t1.name, .bool a.t2.v, .string a.t2.name, .bool a.t3.v, .string a.t3.name] 30)).heap.size = w.heap.size + 1 by simp] at hB
  have hb := (bel_alloc w (.cells #[.string a.says, .string a.pred, .int .i64 a.n, .bool a.t0.v, .string a.t0.name, .bool a.t1.v, .string a.t1.name, .bool a.t2.v, .string a.t2.name, .bool a.t3.v, .string a.t3.name] 30)).trans' (bel_alloc (w.alloc (.cells #[.string a.says, .string a.pred, .int .i64 a.n, .bool a.t0.v, .string a.t0.name, .bool a.t1.v, .string a.t1.name, .bool a.t2.v, .string a.t2.name, .bool a.t3.v, .string a.t3.name] 30)) (.cells #[.string b.says, .string b.pred, .int .i64 b.n, .bool b.t0.v, .string b.t0.name, .bool b.t1.v, .string b.t1.name, .bool b.t2.v, .string b.t2.name, .bool b.t3.v, .string b.t3.name] 30))
  have hLa := Lib.hid (fun W => light_any a W hak)
  have hKa := Lib.hid (fun W => rCheck_any a W hak)
  have hLb := Lib.hid (fun W => light_any b W hbk)
  have hKb := Lib.hid (fun W => rCheck_any b W hbk)
  have HIT := Lib.hid hIt
  clear hIt
  have hP1 := Lib.hid (fun W => pick_any n 100000000 W (by omega) (by omega) hn.1 hn.2)
  have hP2 := Lib.hid (fun W => pick_any m 100000000 W (by omega) (by omega) hm.1 hm.2)
  obtain ⟨i, hi⟩ : ∃ i : Nat, pickI n 100000000 = (i : Int) := ⟨(pickI n 100000000).toNat, by have := (pick_range n 100000000 (by omega)).1; omega⟩
  obtain ⟨k, hk⟩ : ∃ k : Nat, pickI m 100000000 = (k : Int) := ⟨(pickI m 100000000).toNat, by have := (pick_range m 100000000 (by omega)).1; omega⟩
  have hi9 : i < 100000000 := by have := (pick_range n 100000000 (by omega)).2; omega
  have hk9 : k < 100000000 := by have := (pick_range m 100000000 (by omega)).2; omega
  rw [hi] at hP1
  rw [hk] at hP2
  clear hi hk hn hm
  cases q0 : lightA a
  case false =>
    rw [q0] at hLa
    clear q0
    go_enter Tryd.func4, Tryd.ntmps4
    go_wp2_with (fail)
    refine (lives6_any _).mono ?_
    rintro e w1 ⟨rfl, hg⟩
    replace hA := hA.bel hg
    replace hB := hB.bel hg
    replace hb := hb.trans' hg
    clear hg
    obtain ⟨c0, c1, c2, c3, c4, c5, c6, c7, c8, c9, c10⟩ := hA.cells
    go_wp2_with (fail)
    refine (hLa.out _).mono ?_
    rintro e w2 ⟨rfl, hg⟩
    replace hA := hA.bel hg
    replace hB := hB.bel hg
    replace hb := hb.trans' hg
    clear hg
    clear c0 c1 c2 c3 c4 c5 c6 c7 c8 c9 c10
    obtain ⟨c0, c1, c2, c3, c4, c5, c6, c7, c8, c9, c10⟩ := hB.cells
    go_wp2
    go_ret
    exact ⟨rfl, hb⟩
  rw [q0] at hLa
  cases q1 : lightA b
  case false =>
    rw [q1] at hLb
    clear q1 q0
    go_enter Tryd.func4, Tryd.ntmps4
    go_wp2_with (fail)
    refine (lives6_any _).mono ?_
    rintro e w1 ⟨rfl, hg⟩
    replace hA := hA.bel hg
    replace hB := hB.bel hg
    replace hb := hb.trans' hg
    clear hg
    obtain ⟨c0, c1, c2, c3, c4, c5, c6, c7, c8, c9, c10⟩ := hA.cells
    go_wp2_with (fail)
    refine (hLa.out _).mono ?_
    rintro e w2 ⟨rfl, hg⟩
    replace hA := hA.bel hg
    replace hB := hB.bel hg
    replace hb := hb.trans' hg
    clear hg
    clear c0 c1 c2 c3 c4 c5 c6 c7 c8 c9 c10
    obtain ⟨c0, c1, c2, c3, c4, c5, c6, c7, c8, c9, c10⟩ := hB.cells
    go_wp2_with (fail)
    refine (hLb.out _).mono ?_
    rintro e w3 ⟨rfl, hg⟩
    replace hA := hA.bel hg
    replace hB := hB.bel hg
    replace hb := hb.trans' hg
    clear hg
    clear c0 c1 c2 c3 c4 c5 c6 c7 c8 c9 c10
    obtain ⟨c0, c1, c2, c3, c4, c5, c6, c7, c8, c9, c10⟩ := hA.cells
    go_wp2
    go_ret
    exact ⟨rfl, hb⟩
  rw [q1] at hLb
  by_cases q2 : checkD a = 0
  case neg =>
    have hz : (checkD a != 0) = true := by simpa using q2
    have hz2 : (checkD a == 0) = false := by simpa using q2
    clear q0 q1 q2
    go_enter Tryd.func4, Tryd.ntmps4
    go_wp2_with (fail)
    refine (lives6_any _).mono ?_
    rintro e w1 ⟨rfl, hg⟩
    replace hA := hA.bel hg
    replace hB := hB.bel hg
    replace hb := hb.trans' hg
    clear hg
    obtain ⟨c0, c1, c2, c3, c4, c5, c6, c7, c8, c9, c10⟩ := hA.cells
    go_wp2_with (fail)
    refine (hLa.out _).mono ?_
    rintro e w2 ⟨rfl, hg⟩
    replace hA := hA.bel hg
    replace hB := hB.bel hg
    replace hb := hb.trans' hg
    clear hg
    clear c0 c1 c2 c3 c4 c5 c6 c7 c8 c9 c10
    obtain ⟨c0, c1, c2, c3, c4, c5, c6, c7, c8, c9, c10⟩ := hB.cells
    go_wp2_with (fail)
    refine (hLb.out _).mono ?_
    rintro e w3 ⟨rfl, hg⟩
    replace hA := hA.bel hg
    replace hB := hB.bel hg
    replace hb := hb.trans' hg
    clear hg
    clear c0 c1 c2 c3 c4 c5 c6 c7 c8 c9 c10
    obtain ⟨c0, c1, c2, c3, c4, c5, c6, c7, c8, c9, c10⟩ := hA.cells
    go_wp2_with (fail)
    refine (hKa.out _).mono ?_
    rintro e w4 ⟨rfl, hg⟩
    replace hA := hA.bel hg
    replace hB := hB.bel hg
    replace hb := hb.trans' hg
    clear hg
    clear c0 c1 c2 c3 c4 c5 c6 c7 c8 c9 c10
    obtain ⟨c0, c1, c2, c3, c4, c5, c6, c7, c8, c9, c10⟩ := hB.cells
    go_wp2
    go_ret
    exact ⟨rfl, hb⟩
  rw [q2] at hKa
  by_cases q3 : checkD b = 0
  case neg =>
    have hz : (checkD b != 0) = true := by simpa using q3
    have hz2 : (checkD b == 0) = false := by simpa using q3
    clear q0 q1 q2 q3
    go_enter Tryd.func4, Tryd.ntmps4
    go_wp2_with (fail)
    refine (lives6_any _).mono ?_
    rintro e w1 ⟨rfl, hg⟩
    replace hA := hA.bel hg
    replace hB := hB.bel hg
    replace hb := hb.trans' hg
    clear hg
    obtain ⟨c0, c1, c2, c3, c4, c5, c6, c7, c8, c9, c10⟩ := hA.cells
    go_wp2_with (fail)
    refine (hLa.out _).mono ?_
    rintro e w2 ⟨rfl, hg⟩
    replace hA := hA.bel hg
    replace hB := hB.bel hg
    replace hb := hb.trans' hg
    clear hg
    clear c0 c1 c2 c3 c4 c5 c6 c7 c8 c9 c10
    obtain ⟨c0, c1, c2, c3, c4, c5, c6, c7, c8, c9, c10⟩ := hB.cells
    go_wp2_with (fail)
    refine (hLb.out _).mono ?_
    rintro e w3 ⟨rfl, hg⟩
    replace hA := hA.bel hg
    replace hB := hB.bel hg
    replace hb := hb.trans' hg
    clear hg
    clear c0 c1 c2 c3 c4 c5 c6 c7 c8 c9 c10
    obtain ⟨c0, c1, c2, c3, c4, c5, c6, c7, c8, c9, c10⟩ := hA.cells
    go_wp2_with (fail)
    refine (hKa.out _).mono ?_
    rintro e w4 ⟨rfl, hg⟩
    replace hA := hA.bel hg
    replace hB := hB.bel hg
    replace hb := hb.trans' hg
    clear hg
    clear c0 c1 c2 c3 c4 c5 c6 c7 c8 c9 c10
    obtain ⟨c0, c1, c2, c3, c4, c5, c6, c7, c8, c9, c10⟩ := hB.cells
    go_wp2_with (fail)
    refine (hKb.out _).mono ?_
    rintro e w5 ⟨rfl, hg⟩
    replace hA := hA.bel hg
    replace hB := hB.bel hg
    replace hb := hb.trans' hg
    clear hg
    clear c0 c1 c2 c3 c4 c5 c6 c7 c8 c9 c10
    go_wp2
    go_ret
    exact ⟨rfl, hb⟩
  rw [q3] at hKb
  have HSA := Lib.hid (AtomOk.sm q0)
  have HSB := Lib.hid (AtomOk.sm q1)
  have HCA := Lib.hid q2
  have HCB := Lib.hid q3
  clear q0 q1 q2 q3
  go_enter Tryd.func4, Tryd.ntmps4
  go_wp2_with (fail)
  refine (lives6_any _).mono ?_
  rintro e w1 ⟨rfl, hg⟩
  replace hA := hA.bel hg
  replace hB := hB.bel hg
  replace hb := hb.trans' hg
  clear hg
  obtain ⟨c0, c1, c2, c3, c4, c5, c6, c7, c8, c9, c10⟩ := hA.cells
  go_wp2_with (fail)
  refine (hLa.out _).mono ?_
  rintro e w2 ⟨rfl, hg⟩
  replace hA := hA.bel hg
  replace hB := hB.bel hg
  replace hb := hb.trans' hg
  clear hg
  clear c0 c1 c2 c3 c4 c5 c6 c7 c8 c9 c10
  obtain ⟨c0, c1, c2, c3, c4, c5, c6, c7, c8, c9, c10⟩ := hB.cells
  go_wp2_with (fail)
  refine (hLb.out _).mono ?_
  rintro e w3 ⟨rfl, hg⟩
  replace hA := hA.bel hg
  replace hB := hB.bel hg
  replace hb := hb.trans' hg
  clear hg
  clear c0 c1 c2 c3 c4 c5 c6 c7 c8 c9 c10
  obtain ⟨c0, c1, c2, c3, c4, c5, c6, c7, c8, c9, c10⟩ := hA.cells
  go_wp2_with (fail)
  refine (hKa.out _).mono ?_
  rintro e w4 ⟨rfl, hg⟩
  replace hA := hA.bel hg
  replace hB := hB.bel hg
  replace hb := hb.trans' hg
  clear hg
  clear c0 c1 c2 c3 c4 c5 c6 c7 c8 c9 c10
  obtain ⟨c0, c1, c2, c3, c4, c5, c6, c7, c8, c9, c10⟩ := hB.cells
  go_wp2_with (fail)
  refine (hKb.out _).mono ?_
  rintro e w5 ⟨rfl, hg⟩
  replace hA := hA.bel hg
  replace hB := hB.bel hg
  replace hb := hb.trans' hg
  clear hg
  clear c0 c1 c2 c3 c4 c5 c6 c7 c8 c9 c10
  go_wp2_with (fail)
  refine (hP1.out _).mono ?_
  rintro e w50 ⟨rfl, rfl⟩
  go_wp2_with (fail)
  refine (hP2.out _).mono ?_
  rintro e w51 ⟨rfl, rfl⟩
  clear hLa hLb hKa hKb hP1 hP2
  have HP1 := Lib.hid hA
  have HG1 := Lib.hid hB
  have HB1 := Lib.hid hb
  clear hA hB hb
  have hX1 := Lib.hid (fun W (hg : Bel w5 W) => Rename_any a i W (by omega) ((HIT.out i (by omega)).bel (HB1.out.trans' hg)) HSA.out.args)
  have hX2 := Lib.hid (fun W (hg : Bel w5 W) => Rename_any b k W (by omega) ((HIT.out k (by omega)).bel (HB1.out.trans' hg)) HSB.out.args)
  have hX3 := Lib.hid (fun W (hg : Bel w5 W) => ren_up a i W hi9 ((HIT.out (i + 1) (by omega)).bel (HB1.out.trans' hg)) HSA.out.args)
  go_upto_region 6 with fail
  go_cut [9, 10] (fun s11 s12 wx => ∃ (b11 b12 : Nat) (x y : AtomD), s11 = .pointer (some ⟨b11, 0, none⟩) ∧ s12 = .pointer (some ⟨b12, 0, none⟩) ∧ RowKit.Hid (x = renD a i ∧ y = renD b k ∧ AtomAt wx b11 x ∧ AtomAt wx b12 y ∧ Bel w5 wx))
  case first =>
    clear hX3
    apply cutL2
    · intro key
      refine wp_region_held_drew (S := (fun w' => (w'.cell? ⟨w.heap.size, 0, none⟩ = some (.string a.says) ∧ w'.cell? ⟨w.heap.size, 1, none⟩ = some (.string a.pred) ∧ w'.cell? ⟨w.heap.size, 2, none⟩ = some (.int .i64 a.n) ∧ w'.cell? ⟨w.heap.size, 3, none⟩ = some (.bool a.t0.v) ∧ w'.cell? ⟨w.heap.size, 4, none⟩ = some (.string a.t0.name) ∧ w'.cell? ⟨w.heap.size, 5, none⟩ = some (.bool a.t1.v) ∧ w'.cell? ⟨w.heap.size, 6, none⟩ = some (.string a.t1.name) ∧ w'.cell? ⟨w.heap.size, 7, none⟩ = some (.bool a.t2.v) ∧ w'.cell? ⟨w.heap.size, 8, none⟩ = some (.string a.t2.name) ∧ w'.cell? ⟨w.heap.size, 9, none⟩ = some (.bool a.t3.v) ∧ w'.cell? ⟨w.heap.size, 10, none⟩ = some (.string a.t3.name)) ∧ (w'.cell? ⟨w.heap.size + 1, 0, none⟩ = some (.string b.says) ∧ w'.cell? ⟨w.heap.size + 1, 1, none⟩ = some (.string b.pred) ∧ w'.cell? ⟨w.heap.size + 1, 2, none⟩ = some (.int .i64 b.n) ∧ w'.cell? ⟨w.heap.size + 1, 3, none⟩ = some (.bool b.t0.v) ∧ w'.cell? ⟨w.heap.size + 1, 4, none⟩ = some (.string b.t0.name) ∧ w'.cell? ⟨w.heap.size + 1, 5, none⟩ = some (.bool b.t1.v) ∧ w'.cell? ⟨w.heap.size + 1, 6, none⟩ = some (.string b.t1.name) ∧ w'.cell? ⟨w.heap.size + 1, 7, none⟩ = some (.bool b.t2.v) ∧ w'.cell? ⟨w.heap.size + 1, 8, none⟩ = some (.string b.t2.name) ∧ w'.cell? ⟨w.heap.size + 1, 9, none⟩ = some (.bool b.t3.v) ∧ w'.cell? ⟨w.heap.size + 1, 10, none⟩ = some (.string b.t3.name)))) (by kernel_rfl) (⟨(HP1.out.drew).cells, (HG1.out.drew).cells⟩) (fun hHeld => ?_)
      have hA0 := HP1.out.drew; have hB0 := HG1.out.drew; have hd0 : Bel w5 w5.drew := bel_drew' (Below.refl _ _)
      obtain ⟨wD, hD⟩ : ∃ x, x = w5.drew := ⟨_, rfl⟩
      rw [← hD] at hA0 hB0 hd0 hHeld ⊢
      clear hD
      refine wpAnyH_take (i := 0) (oi := { dst := some 44, op := Go.Op.load 30 (Go.Operand.tmp 4), type := 30, pos := "law.go:95", after := #[], guard := none }) (v := ?_) rfl (by kernel_rfl) (by kernel_rfl) (by kernel_rfl) (fun _ _ _ h => h) (Or.inl ⟨by rfl, ?_⟩) hHeld ?_
      rotate_left
      · (intro w hSw; (try dsimp only at hSw); go_simp)
        all_goals with_reducible rfl
      try simp only [Act.put, List.setIfInBounds_toArray, List.set_cons_zero, List.set_cons_succ]
      refine wpAnyH_take (i := 1) (oi := { dst := some 45, op := Go.Op.move (Go.Operand.tmp 2), type := 3, pos := "law.go:95", after := #[], guard := none }) (v := ?_) rfl (by kernel_rfl) (by kernel_rfl) (by kernel_rfl) (fun _ _ _ h => h) (Or.inl ⟨by rfl, ?_⟩) hHeld ?_
      rotate_left
      · (intro w hSw; (try dsimp only at hSw); go_simp)
        all_goals with_reducible rfl
      try simp only [Act.put, List.setIfInBounds_toArray, List.set_cons_zero, List.set_cons_succ]
      refine wpAnyH_take (i := 3) (oi := { dst := some 47, op := Go.Op.load 30 (Go.Operand.tmp 5), type := 30, pos := "law.go:95", after := #[], guard := none }) (v := ?_) rfl (by kernel_rfl) (by kernel_rfl) (by kernel_rfl) (fun _ _ _ h => h) (Or.inl ⟨by rfl, ?_⟩) hHeld ?_
      rotate_left
      · (intro w hSw; (try dsimp only at hSw); go_simp)
        all_goals with_reducible rfl
      try simp only [Act.put, List.setIfInBounds_toArray, List.set_cons_zero, List.set_cons_succ]
      refine wpAnyH_take (i := 4) (oi := { dst := some 48, op := Go.Op.move (Go.Operand.tmp 3), type := 3, pos := "law.go:95", after := #[], guard := none }) (v := ?_) rfl (by kernel_rfl) (by kernel_rfl) (by kernel_rfl) (fun _ _ _ h => h) (Or.inl ⟨by rfl, ?_⟩) hHeld ?_
      rotate_left
      · (intro w hSw; (try dsimp only at hSw); go_simp)
        all_goals with_reducible rfl
      try simp only [Act.put, List.setIfInBounds_toArray, List.set_cons_zero, List.set_cons_succ]
      clear hHeld
      refine wpAnyH_ready (rs := [2, 6, 7]) (by kernel_rfl) (by simp) ?_
      refine (AllReadyH.cons (o := { dst := some 46, op := Go.Op.call { callee := Go.Callee.value (Go.Operand.func 10), args := #[Go.Operand.tmp 44, Go.Operand.tmp 45], argTypes := #[30, 3] }, type := 30, pos := "law.go:95", after := #[{ on := 0, ground := Go.Ground.data }, { on := 1, ground := Go.Ground.data }], guard := none }) rfl (fun K hK => ?_) (AllReadyH.cons (o := { dst := some 9, op := Go.Op.alloc 30, type := 0, pos := "law.go:95", after := #[], guard := none }) rfl (fun K hK => ?_) (AllReadyH.cons (o := { dst := some 10, op := Go.Op.alloc 30, type := 0, pos := "law.go:95", after := #[], guard := none }) rfl (fun K hK => ?_) AllReadyH.nil)))
      · go_simp
        go_at_call 10
        refine (hX1.out _ hd0).mono ?_
        rintro e w101 ⟨⟨u, HU, rfl⟩, hg⟩
        have hA1 := hA0.bel hg; have hB1 := hB0.bel hg; have hd1 := hd0.trans' hg
        clear hg hA0 hB0 hd0
        first | refine hK.out _ _ ?_ (fun hHeld => ?_) | (go_wp2_with fail; refine hK.out _ _ ?_ (fun hHeld => ?_))
        · (try dsimp only); exact ⟨hA1.cells, hB1.cells⟩
        clear hK K hHeld
        try simp only [Act.put, List.setIfInBounds_toArray, List.set_cons_zero, List.set_cons_succ]
        refine wpAnyH_ready (rs := [5, 6, 7]) (by kernel_rfl) (by simp) ?_
        refine (AllReadyH.cons (o := { dst := some 49, op := Go.Op.call { callee := Go.Callee.value (Go.Operand.func 10), args := #[Go.Operand.tmp 47, Go.Operand.tmp 48], argTypes := #[30, 3] }, type := 30, pos := "law.go:95", after := #[{ on := 3, ground := Go.Ground.data }, { on := 4, ground := Go.Ground.data }, { on := 2, ground := Go.Ground.chain }], guard := none }) rfl (fun K hK => ?_) (AllReadyH.cons (o := { dst := some 9, op := Go.Op.alloc 30, type := 0, pos := "law.go:95", after := #[], guard := none }) rfl (fun K hK => ?_) (AllReadyH.cons (o := { dst := some 10, op := Go.Op.alloc 30, type := 0, pos := "law.go:95", after := #[], guard := none }) rfl (fun K hK => ?_) AllReadyH.nil)))
        · go_simp
          go_at_call 10
          refine (hX2.out _ hd1).mono ?_
          rintro e w102 ⟨⟨v, HV, rfl⟩, hg⟩
          have hA2 := hA1.bel hg; have hB2 := hB1.bel hg; have hd2 := hd1.trans' hg
          clear hg hA1 hB1 hd1
          first | refine hK.out _ _ ?_ (fun hHeld => ?_) | (go_wp2_with fail; refine hK.out _ _ ?_ (fun hHeld => ?_))
          · (try dsimp only); exact ⟨hA2.cells, hB2.cells⟩
          clear hK K hHeld
          try simp only [Act.put, List.setIfInBounds_toArray, List.set_cons_zero, List.set_cons_succ]
          refine wpAnyH_ready (rs := [6, 7]) (by kernel_rfl) (by simp) ?_
          refine (AllReadyH.cons (o := { dst := some 9, op := Go.Op.alloc 30, type := 0, pos := "law.go:95", after := #[], guard := none }) rfl (fun K hK => ?_) (AllReadyH.cons (o := { dst := some 10, op := Go.Op.alloc 30, type := 0, pos := "law.go:95", after := #[], guard := none }) rfl (fun K hK => ?_) AllReadyH.nil))
          · go_simp
            obtain ⟨w103, hW⟩ : ∃ x, x = w102.alloc (.cells #[.string ⟨#[]⟩, .string ⟨#[]⟩, .int .i64 0, .bool false, .string ⟨#[]⟩, .bool false, .string ⟨#[]⟩, .bool false, .string ⟨#[]⟩, .bool false, .string ⟨#[]⟩] 30) := ⟨_, rfl⟩
            have hg : Bel w102 w103 := by rw [hW]; exact bel_alloc _ _
            have hN : AtomAt w103 w102.heap.size zeroA := by rw [hW]; exact AtomAt.new w102 zeroA
            have hl : w5.heap.size ≤ w102.heap.size := hd2.size
            rw [← hW]
            clear hW
            have hA3 := hA2.bel hg; have hB3 := hB2.bel hg; have hd3 := hd2.trans' hg
            generalize w102.heap.size = g0 at hN hl ⊢
            have hf0 := hN; have hl0 := hl; clear hN hl
            clear hg hA2 hB2 hd2
            first | refine hK.out _ _ ?_ (fun hHeld => ?_) | (go_wp2_with fail; refine hK.out _ _ ?_ (fun hHeld => ?_))
            · (try dsimp only); exact ⟨hA3.cells, hB3.cells⟩
            clear hK K hHeld
            try simp only [Act.put, List.setIfInBounds_toArray, List.set_cons_zero, List.set_cons_succ]
            refine wpAnyH_ready (rs := [7]) (by kernel_rfl) (by simp) ?_
            refine (AllReadyH.cons (o := { dst := some 10, op := Go.Op.alloc 30, type := 0, pos := "law.go:95", after := #[], guard := none }) rfl (fun K hK => ?_) AllReadyH.nil)
            · go_simp
              obtain ⟨w104, hW⟩ : ∃ x, x = w103.alloc (.cells #[.string ⟨#[]⟩, .string ⟨#[]⟩, .int .i64 0, .bool false, .string ⟨#[]⟩, .bool false, .string ⟨#[]⟩, .bool false, .string ⟨#[]⟩, .bool false, .string ⟨#[]⟩] 30) := ⟨_, rfl⟩
              have hg : Bel w103 w104 := by rw [hW]; exact bel_alloc _ _
              have hN : AtomAt w104 w103.heap.size zeroA := by rw [hW]; exact AtomAt.new w103 zeroA
              have hl : w5.heap.size ≤ w103.heap.size := hd3.size
              have hne : w103.heap.size ≠ g0 := Nat.ne_of_gt (AtomAt.lt hf0)
              rw [← hW]
              clear hW
              have hA4 := hA3.bel hg; have hB4 := hB3.bel hg; have hd4 := hd3.trans' hg
              replace hf0 := hf0.bel hg
              generalize w103.heap.size = g1 at hN hl hne ⊢
              have hf1 := hN; have hl1 := hl; clear hN hl
              clear hg hA3 hB3 hd3
              first | refine hK.out _ _ ?_ (fun hHeld => ?_) | (go_wp2_with fail; refine hK.out _ _ ?_ (fun hHeld => ?_))
              · (try dsimp only); exact ⟨hA4.cells, hB4.cells⟩
              clear hK K hHeld
              try simp only [Act.put, List.setIfInBounds_toArray, List.set_cons_zero, List.set_cons_succ]
              have BD : RegA w5 w104 w.heap.size (w.heap.size + 1) a b g0 g1 u v (renD a i) (renD b k) := ⟨⟨hf0, hf1, hne, hl0, hl1, hd4⟩, hA4, hB4, HU.out, HV.out⟩
              clear hf0 hl0 hne hf1 hl1 HU HV hA4 hB4 hd4
              revert BD; revert v; revert u; revert g1; revert g0; revert w104
              exact key
          · go_simp
            obtain ⟨w105, hW⟩ : ∃ x, x = w102.alloc (.cells #[.string ⟨#[]⟩, .string ⟨#[]⟩, .int .i64 0, .bool false, .string ⟨#[]⟩, .bool false, .string ⟨#[]⟩, .bool false, .string ⟨#[]⟩, .bool false, .string ⟨#[]⟩] 30) := ⟨_, rfl⟩
            have hg : Bel w102 w105 := by rw [hW]; exact bel_alloc _ _
            have hN : AtomAt w105 w102.heap.size zeroA := by rw [hW]; exact AtomAt.new w102 zeroA
            have hl : w5.heap.size ≤ w102.heap.size := hd2.size
            rw [← hW]
            clear hW
            have hA5 := hA2.bel hg; have hB5 := hB2.bel hg; have hd5 := hd2.trans' hg
            generalize w102.heap.size = g1 at hN hl ⊢
            have hf1 := hN; have hl1 := hl; clear hN hl
            clear hg hA2 hB2 hd2
            first | refine hK.out _ _ ?_ (fun hHeld => ?_) | (go_wp2_with fail; refine hK.out _ _ ?_ (fun hHeld => ?_))
            · (try dsimp only); exact ⟨hA5.cells, hB5.cells⟩
            clear hK K hHeld
            try simp only [Act.put, List.setIfInBounds_toArray, List.set_cons_zero, List.set_cons_succ]
            refine wpAnyH_ready (rs := [6]) (by kernel_rfl) (by simp) ?_
            refine (AllReadyH.cons (o := { dst := some 9, op := Go.Op.alloc 30, type := 0, pos := "law.go:95", after := #[], guard := none }) rfl (fun K hK => ?_) AllReadyH.nil)
            · go_simp
              obtain ⟨w106, hW⟩ : ∃ x, x = w105.alloc (.cells #[.string ⟨#[]⟩, .string ⟨#[]⟩, .int .i64 0, .bool false, .string ⟨#[]⟩, .bool false, .string ⟨#[]⟩, .bool false, .string ⟨#[]⟩, .bool false, .string ⟨#[]⟩] 30) := ⟨_, rfl⟩
              have hg : Bel w105 w106 := by rw [hW]; exact bel_alloc _ _
              have hN : AtomAt w106 w105.heap.size zeroA := by rw [hW]; exact AtomAt.new w105 zeroA
              have hl : w5.heap.size ≤ w105.heap.size := hd5.size
              have hne : w105.heap.size ≠ g1 := Nat.ne_of_gt (AtomAt.lt hf1)
              rw [← hW]
              clear hW
              have hA6 := hA5.bel hg; have hB6 := hB5.bel hg; have hd6 := hd5.trans' hg
              replace hf1 := hf1.bel hg
              generalize w105.heap.size = g0 at hN hl hne ⊢
              have hf0 := hN; have hl0 := hl; clear hN hl
              replace hne := Ne.symm hne
              clear hg hA5 hB5 hd5
              first | refine hK.out _ _ ?_ (fun hHeld => ?_) | (go_wp2_with fail; refine hK.out _ _ ?_ (fun hHeld => ?_))
              · (try dsimp only); exact ⟨hA6.cells, hB6.cells⟩
              clear hK K hHeld
              try simp only [Act.put, List.setIfInBounds_toArray, List.set_cons_zero, List.set_cons_succ]
              have BD : RegA w5 w106 w.heap.size (w.heap.size + 1) a b g0 g1 u v (renD a i) (renD b k) := ⟨⟨hf0, hf1, hne, hl0, hl1, hd6⟩, hA6, hB6, HU.out, HV.out⟩
              clear hf1 hl1 hne hf0 hl0 HU HV hA6 hB6 hd6
              revert BD; revert v; revert u; revert g1; revert g0; revert w106
              exact key
        · go_simp
          obtain ⟨w107, hW⟩ : ∃ x, x = w101.alloc (.cells #[.string ⟨#[]⟩, .string ⟨#[]⟩, .int .i64 0, .bool false, .string ⟨#[]⟩, .bool false, .string ⟨#[]⟩, .bool false, .string ⟨#[]⟩, .bool false, .string ⟨#[]⟩] 30) := ⟨_, rfl⟩
          have hg : Bel w101 w107 := by rw [hW]; exact bel_alloc _ _
          have hN : AtomAt w107 w101.heap.size zeroA := by rw [hW]; exact AtomAt.new w101 zeroA
          have hl : w5.heap.size ≤ w101.heap.size := hd1.size
          rw [← hW]
          clear hW
          have hA7 := hA1.bel hg; have hB7 := hB1.bel hg; have hd7 := hd1.trans' hg
          generalize w101.heap.size = g0 at hN hl ⊢
          have hf0 := hN; have hl0 := hl; clear hN hl
          clear hg hA1 hB1 hd1
          first | refine hK.out _ _ ?_ (fun hHeld => ?_) | (go_wp2_with fail; refine hK.out _ _ ?_ (fun hHeld => ?_))
          · (try dsimp only); exact ⟨hA7.cells, hB7.cells⟩
          clear hK K hHeld
          try simp only [Act.put, List.setIfInBounds_toArray, List.set_cons_zero, List.set_cons_succ]
          refine wpAnyH_ready (rs := [5, 7]) (by kernel_rfl) (by simp) ?_
          refine (AllReadyH.cons (o := { dst := some 49, op := Go.Op.call { callee := Go.Callee.value (Go.Operand.func 10), args := #[Go.Operand.tmp 47, Go.Operand.tmp 48], argTypes := #[30, 3] }, type := 30, pos := "law.go:95", after := #[{ on := 3, ground := Go.Ground.data }, { on := 4, ground := Go.Ground.data }, { on := 2, ground := Go.Ground.chain }], guard := none }) rfl (fun K hK => ?_) (AllReadyH.cons (o := { dst := some 10, op := Go.Op.alloc 30, type := 0, pos := "law.go:95", after := #[], guard := none }) rfl (fun K hK => ?_) AllReadyH.nil))
          · go_simp
            go_at_call 10
            refine (hX2.out _ hd7).mono ?_
            rintro e w108 ⟨⟨v, HV, rfl⟩, hg⟩
            have hA8 := hA7.bel hg; have hB8 := hB7.bel hg; have hd8 := hd7.trans' hg
            replace hf0 := hf0.bel hg
            clear hg hA7 hB7 hd7
            first | refine hK.out _ _ ?_ (fun hHeld => ?_) | (go_wp2_with fail; refine hK.out _ _ ?_ (fun hHeld => ?_))
            · (try dsimp only); exact ⟨hA8.cells, hB8.cells⟩
            clear hK K hHeld
            try simp only [Act.put, List.setIfInBounds_toArray, List.set_cons_zero, List.set_cons_succ]
            refine wpAnyH_ready (rs := [7]) (by kernel_rfl) (by simp) ?_
            refine (AllReadyH.cons (o := { dst := some 10, op := Go.Op.alloc 30, type := 0, pos := "law.go:95", after := #[], guard := none }) rfl (fun K hK => ?_) AllReadyH.nil)
            · go_simp
              obtain ⟨w109, hW⟩ : ∃ x, x = w108.alloc (.cells #[.string ⟨#[]⟩, .string ⟨#[]⟩, .int .i64 0, .bool false, .string ⟨#[]⟩, .bool false, .string ⟨#[]⟩, .bool false, .string ⟨#[]⟩, .bool false, .string ⟨#[]⟩] 30) := ⟨_, rfl⟩
              have hg : Bel w108 w109 := by rw [hW]; exact bel_alloc _ _
              have hN : AtomAt w109 w108.heap.size zeroA := by rw [hW]; exact AtomAt.new w108 zeroA
              have hl : w5.heap.size ≤ w108.heap.size := hd8.size
              have hne : w108.heap.size ≠ g0 := Nat.ne_of_gt (AtomAt.lt hf0)
              rw [← hW]
              clear hW
              have hA9 := hA8.bel hg; have hB9 := hB8.bel hg; have hd9 := hd8.trans' hg
              replace hf0 := hf0.bel hg
              generalize w108.heap.size = g1 at hN hl hne ⊢
              have hf1 := hN; have hl1 := hl; clear hN hl
              clear hg hA8 hB8 hd8
              first | refine hK.out _ _ ?_ (fun hHeld => ?_) | (go_wp2_with fail; refine hK.out _ _ ?_ (fun hHeld => ?_))
              · (try dsimp only); exact ⟨hA9.cells, hB9.cells⟩
              clear hK K hHeld
              try simp only [Act.put, List.setIfInBounds_toArray, List.set_cons_zero, List.set_cons_succ]
              have BD : RegA w5 w109 w.heap.size (w.heap.size + 1) a b g0 g1 u v (renD a i) (renD b k) := ⟨⟨hf0, hf1, hne, hl0, hl1, hd9⟩, hA9, hB9, HU.out, HV.out⟩
              clear hf0 hl0 hne hf1 hl1 HU HV hA9 hB9 hd9
              revert BD; revert v; revert u; revert g1; revert g0; revert w109
              exact key
          · go_simp
            obtain ⟨w110, hW⟩ : ∃ x, x = w107.alloc (.cells #[.string ⟨#[]⟩, .string ⟨#[]⟩, .int .i64 0, .bool false, .string ⟨#[]⟩, .bool false, .string ⟨#[]⟩, .bool false, .string ⟨#[]⟩, .bool false, .string ⟨#[]⟩] 30) := ⟨_, rfl⟩
            have hg : Bel w107 w110 := by rw [hW]; exact bel_alloc _ _
            have hN : AtomAt w110 w107.heap.size zeroA := by rw [hW]; exact AtomAt.new w107 zeroA
            have hl : w5.heap.size ≤ w107.heap.size := hd7.size
            have hne : w107.heap.size ≠ g0 := Nat.ne_of_gt (AtomAt.lt hf0)
            rw [← hW]
            clear hW
            have hA10 := hA7.bel hg; have hB10 := hB7.bel hg; have hd10 := hd7.trans' hg
            replace hf0 := hf0.bel hg
            generalize w107.heap.size = g1 at hN hl hne ⊢
            have hf1 := hN; have hl1 := hl; clear hN hl
            clear hg hA7 hB7 hd7
            first | refine hK.out _ _ ?_ (fun hHeld => ?_) | (go_wp2_with fail; refine hK.out _ _ ?_ (fun hHeld => ?_))
            · (try dsimp only); exact ⟨hA10.cells, hB10.cells⟩
            clear hK K hHeld
            try simp only [Act.put, List.setIfInBounds_toArray, List.set_cons_zero, List.set_cons_succ]
            refine wpAnyH_ready (rs := [5]) (by kernel_rfl) (by simp) ?_
            refine (AllReadyH.cons (o := { dst := some 49, op := Go.Op.call { callee := Go.Callee.value (Go.Operand.func 10), args := #[Go.Operand.tmp 47, Go.Operand.tmp 48], argTypes := #[30, 3] }, type := 30, pos := "law.go:95", after := #[{ on := 3, ground := Go.Ground.data }, { on := 4, ground := Go.Ground.data }, { on := 2, ground := Go.Ground.chain }], guard := none }) rfl (fun K hK => ?_) AllReadyH.nil)
            · go_simp
              go_at_call 10
              refine (hX2.out _ hd10).mono ?_
              rintro e w111 ⟨⟨v, HV, rfl⟩, hg⟩
              have hA11 := hA10.bel hg; have hB11 := hB10.bel hg; have hd11 := hd10.trans' hg
              replace hf0 := hf0.bel hg
              replace hf1 := hf1.bel hg
              clear hg hA10 hB10 hd10
              first | refine hK.out _ _ ?_ (fun hHeld => ?_) | (go_wp2_with fail; refine hK.out _ _ ?_ (fun hHeld => ?_))
              · (try dsimp only); exact ⟨hA11.cells, hB11.cells⟩
              clear hK K hHeld
              try simp only [Act.put, List.setIfInBounds_toArray, List.set_cons_zero, List.set_cons_succ]
              have BD : RegA w5 w111 w.heap.size (w.heap.size + 1) a b g0 g1 u v (renD a i) (renD b k) := ⟨⟨hf0, hf1, hne, hl0, hl1, hd11⟩, hA11, hB11, HU.out, HV.out⟩
              clear hf0 hl0 hne hf1 hl1 HU HV hA11 hB11 hd11
              revert BD; revert v; revert u; revert g1; revert g0; revert w111
              exact key
        · go_simp
          obtain ⟨w112, hW⟩ : ∃ x, x = w101.alloc (.cells #[.string ⟨#[]⟩, .string ⟨#[]⟩, .int .i64 0, .bool false, .string ⟨#[]⟩, .bool false, .string ⟨#[]⟩, .bool false, .string ⟨#[]⟩, .bool false, .string ⟨#[]⟩] 30) := ⟨_, rfl⟩
          have hg : Bel w101 w112 := by rw [hW]; exact bel_alloc _ _
          have hN : AtomAt w112 w101.heap.size zeroA := by rw [hW]; exact AtomAt.new w101 zeroA
          have hl : w5.heap.size ≤ w101.heap.size := hd1.size
          rw [← hW]
          clear hW
          have hA12 := hA1.bel hg; have hB12 := hB1.bel hg; have hd12 := hd1.trans' hg
          generalize w101.heap.size = g1 at hN hl ⊢
          have hf1 := hN; have hl1 := hl; clear hN hl
          clear hg hA1 hB1 hd1
          first | refine hK.out _ _ ?_ (fun hHeld => ?_) | (go_wp2_with fail; refine hK.out _ _ ?_ (fun hHeld => ?_))
          · (try dsimp only); exact ⟨hA12.cells, hB12.cells⟩
          clear hK K hHeld
          try simp only [Act.put, List.setIfInBounds_toArray, List.set_cons_zero, List.set_cons_succ]
          refine wpAnyH_ready (rs := [5, 6]) (by kernel_rfl) (by simp) ?_
          refine (AllReadyH.cons (o := { dst := some 49, op := Go.Op.call { callee := Go.Callee.value (Go.Operand.func 10), args := #[Go.Operand.tmp 47, Go.Operand.tmp 48], argTypes := #[30, 3] }, type := 30, pos := "law.go:95", after := #[{ on := 3, ground := Go.Ground.data }, { on := 4, ground := Go.Ground.data }, { on := 2, ground := Go.Ground.chain }], guard := none }) rfl (fun K hK => ?_) (AllReadyH.cons (o := { dst := some 9, op := Go.Op.alloc 30, type := 0, pos := "law.go:95", after := #[], guard := none }) rfl (fun K hK => ?_) AllReadyH.nil))
          · go_simp
            go_at_call 10
            refine (hX2.out _ hd12).mono ?_
            rintro e w113 ⟨⟨v, HV, rfl⟩, hg⟩
            have hA13 := hA12.bel hg; have hB13 := hB12.bel hg; have hd13 := hd12.trans' hg
            replace hf1 := hf1.bel hg
            clear hg hA12 hB12 hd12
            first | refine hK.out _ _ ?_ (fun hHeld => ?_) | (go_wp2_with fail; refine hK.out _ _ ?_ (fun hHeld => ?_))
            · (try dsimp only); exact ⟨hA13.cells, hB13.cells⟩
            clear hK K hHeld
            try simp only [Act.put, List.setIfInBounds_toArray, List.set_cons_zero, List.set_cons_succ]
            refine wpAnyH_ready (rs := [6]) (by kernel_rfl) (by simp) ?_
            refine (AllReadyH.cons (o := { dst := some 9, op := Go.Op.alloc 30, type := 0, pos := "law.go:95", after := #[], guard := none }) rfl (fun K hK => ?_) AllReadyH.nil)
            · go_simp
              obtain ⟨w114, hW⟩ : ∃ x, x = w113.alloc (.cells #[.string ⟨#[]⟩, .string ⟨#[]⟩, .int .i64 0, .bool false, .string ⟨#[]⟩, .bool false, .string ⟨#[]⟩, .bool false, .string ⟨#[]⟩, .bool false, .string ⟨#[]⟩] 30) := ⟨_, rfl⟩
              have hg : Bel w113 w114 := by rw [hW]; exact bel_alloc _ _
              have hN : AtomAt w114 w113.heap.size zeroA := by rw [hW]; exact AtomAt.new w113 zeroA
              have hl : w5.heap.size ≤ w113.heap.size := hd13.size
              have hne : w113.heap.size ≠ g1 := Nat.ne_of_gt (AtomAt.lt hf1)
              rw [← hW]
              clear hW
              have hA14 := hA13.bel hg; have hB14 := hB13.bel hg; have hd14 := hd13.trans' hg
              replace hf1 := hf1.bel hg
              generalize w113.heap.size = g0 at hN hl hne ⊢
              have hf0 := hN; have hl0 := hl; clear hN hl
              replace hne := Ne.symm hne
              clear hg hA13 hB13 hd13
              first | refine hK.out _ _ ?_ (fun hHeld => ?_) | (go_wp2_with fail; refine hK.out _ _ ?_ (fun hHeld => ?_))
              · (try dsimp only); exact ⟨hA14.cells, hB14.cells⟩
              clear hK K hHeld
              try simp only [Act.put, List.setIfInBounds_toArray, List.set_cons_zero, List.set_cons_succ]
              have BD : RegA w5 w114 w.heap.size (w.heap.size + 1) a b g0 g1 u v (renD a i) (renD b k) := ⟨⟨hf0, hf1, hne, hl0, hl1, hd14⟩, hA14, hB14, HU.out, HV.out⟩
              clear hf1 hl1 hne hf0 hl0 HU HV hA14 hB14 hd14
              revert BD; revert v; revert u; revert g1; revert g0; revert w114
              exact key
          · go_simp
            obtain ⟨w115, hW⟩ : ∃ x, x = w112.alloc (.cells #[.string ⟨#[]⟩, .string ⟨#[]⟩, .int .i64 0, .bool false, .string ⟨#[]⟩, .bool false, .string ⟨#[]⟩, .bool false, .string ⟨#[]⟩, .bool false, .string ⟨#[]⟩] 30) := ⟨_, rfl⟩
            have hg : Bel w112 w115 := by rw [hW]; exact bel_alloc _ _
            have hN : AtomAt w115 w112.heap.size zeroA := by rw [hW]; exact AtomAt.new w112 zeroA
            have hl : w5.heap.size ≤ w112.heap.size := hd12.size
            have hne : w112.heap.size ≠ g1 := Nat.ne_of_gt (AtomAt.lt hf1)
            rw [← hW]
            clear hW
            have hA15 := hA12.bel hg; have hB15 := hB12.bel hg; have hd15 := hd12.trans' hg
            replace hf1 := hf1.bel hg
            generalize w112.heap.size = g0 at hN hl hne ⊢
            have hf0 := hN; have hl0 := hl; clear hN hl
            replace hne := Ne.symm hne
            clear hg hA12 hB12 hd12
            first | refine hK.out _ _ ?_ (fun hHeld => ?_) | (go_wp2_with fail; refine hK.out _ _ ?_ (fun hHeld => ?_))
            · (try dsimp only); exact ⟨hA15.cells, hB15.cells⟩
            clear hK K hHeld
            try simp only [Act.put, List.setIfInBounds_toArray, List.set_cons_zero, List.set_cons_succ]
            refine wpAnyH_ready (rs := [5]) (by kernel_rfl) (by simp) ?_
            refine (AllReadyH.cons (o := { dst := some 49, op := Go.Op.call { callee := Go.Callee.value (Go.Operand.func 10), args := #[Go.Operand.tmp 47, Go.Operand.tmp 48], argTypes := #[30, 3] }, type := 30, pos := "law.go:95", after := #[{ on := 3, ground := Go.Ground.data }, { on := 4, ground := Go.Ground.data }, { on := 2, ground := Go.Ground.chain }], guard := none }) rfl (fun K hK => ?_) AllReadyH.nil)
            · go_simp
              go_at_call 10
              refine (hX2.out _ hd15).mono ?_
              rintro e w116 ⟨⟨v, HV, rfl⟩, hg⟩
              have hA16 := hA15.bel hg; have hB16 := hB15.bel hg; have hd16 := hd15.trans' hg
              replace hf0 := hf0.bel hg
              replace hf1 := hf1.bel hg
              clear hg hA15 hB15 hd15
              first | refine hK.out _ _ ?_ (fun hHeld => ?_) | (go_wp2_with fail; refine hK.out _ _ ?_ (fun hHeld => ?_))
              · (try dsimp only); exact ⟨hA16.cells, hB16.cells⟩
              clear hK K hHeld
              try simp only [Act.put, List.setIfInBounds_toArray, List.set_cons_zero, List.set_cons_succ]
              have BD : RegA w5 w116 w.heap.size (w.heap.size + 1) a b g0 g1 u v (renD a i) (renD b k) := ⟨⟨hf0, hf1, hne, hl0, hl1, hd16⟩, hA16, hB16, HU.out, HV.out⟩
              clear hf1 hl1 hne hf0 hl0 HU HV hA16 hB16 hd16
              revert BD; revert v; revert u; revert g1; revert g0; revert w116
              exact key
      · go_simp
        obtain ⟨w117, hW⟩ : ∃ x, x = wD.alloc (.cells #[.string ⟨#[]⟩, .string ⟨#[]⟩, .int .i64 0, .bool false, .string ⟨#[]⟩, .bool false, .string ⟨#[]⟩, .bool false, .string ⟨#[]⟩, .bool false, .string ⟨#[]⟩] 30) := ⟨_, rfl⟩
        have hg : Bel wD w117 := by rw [hW]; exact bel_alloc _ _
        have hN : AtomAt w117 wD.heap.size zeroA := by rw [hW]; exact AtomAt.new wD zeroA
        have hl : w5.heap.size ≤ wD.heap.size := hd0.size
        rw [← hW]
        clear hW
        have hA17 := hA0.bel hg; have hB17 := hB0.bel hg; have hd17 := hd0.trans' hg
        generalize wD.heap.size = g0 at hN hl ⊢
        have hf0 := hN; have hl0 := hl; clear hN hl
        clear hg hA0 hB0 hd0
        first | refine hK.out _ _ ?_ (fun hHeld => ?_) | (go_wp2_with fail; refine hK.out _ _ ?_ (fun hHeld => ?_))
        · (try dsimp only); exact ⟨hA17.cells, hB17.cells⟩
        clear hK K hHeld
        try simp only [Act.put, List.setIfInBounds_toArray, List.set_cons_zero, List.set_cons_succ]
        refine wpAnyH_ready (rs := [2, 7]) (by kernel_rfl) (by simp) ?_
        refine (AllReadyH.cons (o := { dst := some 46, op := Go.Op.call { callee := Go.Callee.value (Go.Operand.func 10), args := #[Go.Operand.tmp 44, Go.Operand.tmp 45], argTypes := #[30, 3] }, type := 30, pos := "law.go:95", after := #[{ on := 0, ground := Go.Ground.data }, { on := 1, ground := Go.Ground.data }], guard := none }) rfl (fun K hK => ?_) (AllReadyH.cons (o := { dst := some 10, op := Go.Op.alloc 30, type := 0, pos := "law.go:95", after := #[], guard := none }) rfl (fun K hK => ?_) AllReadyH.nil))
        · go_simp
          go_at_call 10
          refine (hX1.out _ hd17).mono ?_
          rintro e w118 ⟨⟨u, HU, rfl⟩, hg⟩
          have hA18 := hA17.bel hg; have hB18 := hB17.bel hg; have hd18 := hd17.trans' hg
          replace hf0 := hf0.bel hg
          clear hg hA17 hB17 hd17
          first | refine hK.out _ _ ?_ (fun hHeld => ?_) | (go_wp2_with fail; refine hK.out _ _ ?_ (fun hHeld => ?_))
          · (try dsimp only); exact ⟨hA18.cells, hB18.cells⟩
          clear hK K hHeld
          try simp only [Act.put, List.setIfInBounds_toArray, List.set_cons_zero, List.set_cons_succ]
          refine wpAnyH_ready (rs := [5, 7]) (by kernel_rfl) (by simp) ?_
          refine (AllReadyH.cons (o := { dst := some 49, op := Go.Op.call { callee := Go.Callee.value (Go.Operand.func 10), args := #[Go.Operand.tmp 47, Go.Operand.tmp 48], argTypes := #[30, 3] }, type := 30, pos := "law.go:95", after := #[{ on := 3, ground := Go.Ground.data }, { on := 4, ground := Go.Ground.data }, { on := 2, ground := Go.Ground.chain }], guard := none }) rfl (fun K hK => ?_) (AllReadyH.cons (o := { dst := some 10, op := Go.Op.alloc 30, type := 0, pos := "law.go:95", after := #[], guard := none }) rfl (fun K hK => ?_) AllReadyH.nil))
          · go_simp
            go_at_call 10
            refine (hX2.out _ hd18).mono ?_
            rintro e w119 ⟨⟨v, HV, rfl⟩, hg⟩
            have hA19 := hA18.bel hg; have hB19 := hB18.bel hg; have hd19 := hd18.trans' hg
            replace hf0 := hf0.bel hg
            clear hg hA18 hB18 hd18
            first | refine hK.out _ _ ?_ (fun hHeld => ?_) | (go_wp2_with fail; refine hK.out _ _ ?_ (fun hHeld => ?_))
            · (try dsimp only); exact ⟨hA19.cells, hB19.cells⟩
            clear hK K hHeld
            try simp only [Act.put, List.setIfInBounds_toArray, List.set_cons_zero, List.set_cons_succ]
            refine wpAnyH_ready (rs := [7]) (by kernel_rfl) (by simp) ?_
            refine (AllReadyH.cons (o := { dst := some 10, op := Go.Op.alloc 30, type := 0, pos := "law.go:95", after := #[], guard := none }) rfl (fun K hK => ?_) AllReadyH.nil)
            · go_simp
              obtain ⟨w120, hW⟩ : ∃ x, x = w119.alloc (.cells #[.string ⟨#[]⟩, .string ⟨#[]⟩, .int .i64 0, .bool false, .string ⟨#[]⟩, .bool false, .string ⟨#[]⟩, .bool false, .string ⟨#[]⟩, .bool false, .string ⟨#[]⟩] 30) := ⟨_, rfl⟩
              have hg : Bel w119 w120 := by rw [hW]; exact bel_alloc _ _
              have hN : AtomAt w120 w119.heap.size zeroA := by rw [hW]; exact AtomAt.new w119 zeroA
              have hl : w5.heap.size ≤ w119.heap.size := hd19.size
              have hne : w119.heap.size ≠ g0 := Nat.ne_of_gt (AtomAt.lt hf0)
              rw [← hW]
              clear hW
              have hA20 := hA19.bel hg; have hB20 := hB19.bel hg; have hd20 := hd19.trans' hg
              replace hf0 := hf0.bel hg
              generalize w119.heap.size = g1 at hN hl hne ⊢
              have hf1 := hN; have hl1 := hl; clear hN hl
              clear hg hA19 hB19 hd19
              first | refine hK.out _ _ ?_ (fun hHeld => ?_) | (go_wp2_with fail; refine hK.out _ _ ?_ (fun hHeld => ?_))
              · (try dsimp only); exact ⟨hA20.cells, hB20.cells⟩
              clear hK K hHeld
              try simp only [Act.put, List.setIfInBounds_toArray, List.set_cons_zero, List.set_cons_succ]
              have BD : RegA w5 w120 w.heap.size (w.heap.size + 1) a b g0 g1 u v (renD a i) (renD b k) := ⟨⟨hf0, hf1, hne, hl0, hl1, hd20⟩, hA20, hB20, HU.out, HV.out⟩
              clear hf0 hl0 hne hf1 hl1 HU HV hA20 hB20 hd20
              revert BD; revert v; revert u; revert g1; revert g0; revert w120
              exact key
          · go_simp
            obtain ⟨w121, hW⟩ : ∃ x, x = w118.alloc (.cells #[.string ⟨#[]⟩, .string ⟨#[]⟩, .int .i64 0, .bool false, .string ⟨#[]⟩, .bool false, .string ⟨#[]⟩, .bool false, .string ⟨#[]⟩, .bool false, .string ⟨#[]⟩] 30) := ⟨_, rfl⟩
            have hg : Bel w118 w121 := by rw [hW]; exact bel_alloc _ _
            have hN : AtomAt w121 w118.heap.size zeroA := by rw [hW]; exact AtomAt.new w118 zeroA
            have hl : w5.heap.size ≤ w118.heap.size := hd18.size
            have hne : w118.heap.size ≠ g0 := Nat.ne_of_gt (AtomAt.lt hf0)
            rw [← hW]
            clear hW
            have hA21 := hA18.bel hg; have hB21 := hB18.bel hg; have hd21 := hd18.trans' hg
            replace hf0 := hf0.bel hg
            generalize w118.heap.size = g1 at hN hl hne ⊢
            have hf1 := hN; have hl1 := hl; clear hN hl
            clear hg hA18 hB18 hd18
            first | refine hK.out _ _ ?_ (fun hHeld => ?_) | (go_wp2_with fail; refine hK.out _ _ ?_ (fun hHeld => ?_))
            · (try dsimp only); exact ⟨hA21.cells, hB21.cells⟩
            clear hK K hHeld
            try simp only [Act.put, List.setIfInBounds_toArray, List.set_cons_zero, List.set_cons_succ]
            refine wpAnyH_ready (rs := [5]) (by kernel_rfl) (by simp) ?_
            refine (AllReadyH.cons (o := { dst := some 49, op := Go.Op.call { callee := Go.Callee.value (Go.Operand.func 10), args := #[Go.Operand.tmp 47, Go.Operand.tmp 48], argTypes := #[30, 3] }, type := 30, pos := "law.go:95", after := #[{ on := 3, ground := Go.Ground.data }, { on := 4, ground := Go.Ground.data }, { on := 2, ground := Go.Ground.chain }], guard := none }) rfl (fun K hK => ?_) AllReadyH.nil)
            · go_simp
              go_at_call 10
              refine (hX2.out _ hd21).mono ?_
              rintro e w122 ⟨⟨v, HV, rfl⟩, hg⟩
              have hA22 := hA21.bel hg; have hB22 := hB21.bel hg; have hd22 := hd21.trans' hg
              replace hf0 := hf0.bel hg
              replace hf1 := hf1.bel hg
              clear hg hA21 hB21 hd21
              first | refine hK.out _ _ ?_ (fun hHeld => ?_) | (go_wp2_with fail; refine hK.out _ _ ?_ (fun hHeld => ?_))
              · (try dsimp only); exact ⟨hA22.cells, hB22.cells⟩
              clear hK K hHeld
              try simp only [Act.put, List.setIfInBounds_toArray, List.set_cons_zero, List.set_cons_succ]
              have BD : RegA w5 w122 w.heap.size (w.heap.size + 1) a b g0 g1 u v (renD a i) (renD b k) := ⟨⟨hf0, hf1, hne, hl0, hl1, hd22⟩, hA22, hB22, HU.out, HV.out⟩
              clear hf0 hl0 hne hf1 hl1 HU HV hA22 hB22 hd22
              revert BD; revert v; revert u; revert g1; revert g0; revert w122
              exact key
        · go_simp
          obtain ⟨w123, hW⟩ : ∃ x, x = w117.alloc (.cells #[.string ⟨#[]⟩, .string ⟨#[]⟩, .int .i64 0, .bool false, .string ⟨#[]⟩, .bool false, .string ⟨#[]⟩, .bool false, .string ⟨#[]⟩, .bool false, .string ⟨#[]⟩] 30) := ⟨_, rfl⟩
          have hg : Bel w117 w123 := by rw [hW]; exact bel_alloc _ _
          have hN : AtomAt w123 w117.heap.size zeroA := by rw [hW]; exact AtomAt.new w117 zeroA
          have hl : w5.heap.size ≤ w117.heap.size := hd17.size
          have hne : w117.heap.size ≠ g0 := Nat.ne_of_gt (AtomAt.lt hf0)
          rw [← hW]
          clear hW
          have hA23 := hA17.bel hg; have hB23 := hB17.bel hg; have hd23 := hd17.trans' hg
          replace hf0 := hf0.bel hg
          generalize w117.heap.size = g1 at hN hl hne ⊢
          have hf1 := hN; have hl1 := hl; clear hN hl
          clear hg hA17 hB17 hd17
          first | refine hK.out _ _ ?_ (fun hHeld => ?_) | (go_wp2_with fail; refine hK.out _ _ ?_ (fun hHeld => ?_))
          · (try dsimp only); exact ⟨hA23.cells, hB23.cells⟩
          clear hK K hHeld
          try simp only [Act.put, List.setIfInBounds_toArray, List.set_cons_zero, List.set_cons_succ]
          refine wpAnyH_ready (rs := [2]) (by kernel_rfl) (by simp) ?_
          refine (AllReadyH.cons (o := { dst := some 46, op := Go.Op.call { callee := Go.Callee.value (Go.Operand.func 10), args := #[Go.Operand.tmp 44, Go.Operand.tmp 45], argTypes := #[30, 3] }, type := 30, pos := "law.go:95", after := #[{ on := 0, ground := Go.Ground.data }, { on := 1, ground := Go.Ground.data }], guard := none }) rfl (fun K hK => ?_) AllReadyH.nil)
          · go_simp
            go_at_call 10
            refine (hX1.out _ hd23).mono ?_
            rintro e w124 ⟨⟨u, HU, rfl⟩, hg⟩
            have hA24 := hA23.bel hg; have hB24 := hB23.bel hg; have hd24 := hd23.trans' hg
            replace hf0 := hf0.bel hg
            replace hf1 := hf1.bel hg
            clear hg hA23 hB23 hd23
            first | refine hK.out _ _ ?_ (fun hHeld => ?_) | (go_wp2_with fail; refine hK.out _ _ ?_ (fun hHeld => ?_))
            · (try dsimp only); exact ⟨hA24.cells, hB24.cells⟩
            clear hK K hHeld
            try simp only [Act.put, List.setIfInBounds_toArray, List.set_cons_zero, List.set_cons_succ]
            refine wpAnyH_ready (rs := [5]) (by kernel_rfl) (by simp) ?_
            refine (AllReadyH.cons (o := { dst := some 49, op := Go.Op.call { callee := Go.Callee.value (Go.Operand.func 10), args := #[Go.Operand.tmp 47, Go.Operand.tmp 48], argTypes := #[30, 3] }, type := 30, pos := "law.go:95", after := #[{ on := 3, ground := Go.Ground.data }, { on := 4, ground := Go.Ground.data }, { on := 2, ground := Go.Ground.chain }], guard := none }) rfl (fun K hK => ?_) AllReadyH.nil)
            · go_simp
              go_at_call 10
              refine (hX2.out _ hd24).mono ?_
              rintro e w125 ⟨⟨v, HV, rfl⟩, hg⟩
              have hA25 := hA24.bel hg; have hB25 := hB24.bel hg; have hd25 := hd24.trans' hg
              replace hf0 := hf0.bel hg
              replace hf1 := hf1.bel hg
              clear hg hA24 hB24 hd24
              first | refine hK.out _ _ ?_ (fun hHeld => ?_) | (go_wp2_with fail; refine hK.out _ _ ?_ (fun hHeld => ?_))
              · (try dsimp only); exact ⟨hA25.cells, hB25.cells⟩
              clear hK K hHeld
              try simp only [Act.put, List.setIfInBounds_toArray, List.set_cons_zero, List.set_cons_succ]
              have BD : RegA w5 w125 w.heap.size (w.heap.size + 1) a b g0 g1 u v (renD a i) (renD b k) := ⟨⟨hf0, hf1, hne, hl0, hl1, hd25⟩, hA25, hB25, HU.out, HV.out⟩
              clear hf0 hl0 hne hf1 hl1 HU HV hA25 hB25 hd25
              revert BD; revert v; revert u; revert g1; revert g0; revert w125
              exact key
      · go_simp
        obtain ⟨w126, hW⟩ : ∃ x, x = wD.alloc (.cells #[.string ⟨#[]⟩, .string ⟨#[]⟩, .int .i64 0, .bool false, .string ⟨#[]⟩, .bool false, .string ⟨#[]⟩, .bool false, .string ⟨#[]⟩, .bool false, .string ⟨#[]⟩] 30) := ⟨_, rfl⟩
        have hg : Bel wD w126 := by rw [hW]; exact bel_alloc _ _
        have hN : AtomAt w126 wD.heap.size zeroA := by rw [hW]; exact AtomAt.new wD zeroA
        have hl : w5.heap.size ≤ wD.heap.size := hd0.size
        rw [← hW]
        clear hW
        have hA26 := hA0.bel hg; have hB26 := hB0.bel hg; have hd26 := hd0.trans' hg
        generalize wD.heap.size = g1 at hN hl ⊢
        have hf1 := hN; have hl1 := hl; clear hN hl
        clear hg hA0 hB0 hd0
        first | refine hK.out _ _ ?_ (fun hHeld => ?_) | (go_wp2_with fail; refine hK.out _ _ ?_ (fun hHeld => ?_))
        · (try dsimp only); exact ⟨hA26.cells, hB26.cells⟩
        clear hK K hHeld
        try simp only [Act.put, List.setIfInBounds_toArray, List.set_cons_zero, List.set_cons_succ]
        refine wpAnyH_ready (rs := [2, 6]) (by kernel_rfl) (by simp) ?_
        refine (AllReadyH.cons (o := { dst := some 46, op := Go.Op.call { callee := Go.Callee.value (Go.Operand.func 10), args := #[Go.Operand.tmp 44, Go.Operand.tmp 45], argTypes := #[30, 3] }, type := 30, pos := "law.go:95", after := #[{ on := 0, ground := Go.Ground.data }, { on := 1, ground := Go.Ground.data }], guard := none }) rfl (fun K hK => ?_) (AllReadyH.cons (o := { dst := some 9, op := Go.Op.alloc 30, type := 0, pos := "law.go:95", after := #[], guard := none }) rfl (fun K hK => ?_) AllReadyH.nil))
        · go_simp
          go_at_call 10
          refine (hX1.out _ hd26).mono ?_
          rintro e w127 ⟨⟨u, HU, rfl⟩, hg⟩
          have hA27 := hA26.bel hg; have hB27 := hB26.bel hg; have hd27 := hd26.trans' hg
          replace hf1 := hf1.bel hg
          clear hg hA26 hB26 hd26
          first | refine hK.out _ _ ?_ (fun hHeld => ?_) | (go_wp2_with fail; refine hK.out _ _ ?_ (fun hHeld => ?_))
          · (try dsimp only); exact ⟨hA27.cells, hB27.cells⟩
          clear hK K hHeld
          try simp only [Act.put, List.setIfInBounds_toArray, List.set_cons_zero, List.set_cons_succ]
          refine wpAnyH_ready (rs := [5, 6]) (by kernel_rfl) (by simp) ?_
          refine (AllReadyH.cons (o := { dst := some 49, op := Go.Op.call { callee := Go.Callee.value (Go.Operand.func 10), args := #[Go.Operand.tmp 47, Go.Operand.tmp 48], argTypes := #[30, 3] }, type := 30, pos := "law.go:95", after := #[{ on := 3, ground := Go.Ground.data }, { on := 4, ground := Go.Ground.data }, { on := 2, ground := Go.Ground.chain }], guard := none }) rfl (fun K hK => ?_) (AllReadyH.cons (o := { dst := some 9, op := Go.Op.alloc 30, type := 0, pos := "law.go:95", after := #[], guard := none }) rfl (fun K hK => ?_) AllReadyH.nil))
          · go_simp
            go_at_call 10
            refine (hX2.out _ hd27).mono ?_
            rintro e w128 ⟨⟨v, HV, rfl⟩, hg⟩
            have hA28 := hA27.bel hg; have hB28 := hB27.bel hg; have hd28 := hd27.trans' hg
            replace hf1 := hf1.bel hg
            clear hg hA27 hB27 hd27
            first | refine hK.out _ _ ?_ (fun hHeld => ?_) | (go_wp2_with fail; refine hK.out _ _ ?_ (fun hHeld => ?_))
            · (try dsimp only); exact ⟨hA28.cells, hB28.cells⟩
            clear hK K hHeld
            try simp only [Act.put, List.setIfInBounds_toArray, List.set_cons_zero, List.set_cons_succ]
            refine wpAnyH_ready (rs := [6]) (by kernel_rfl) (by simp) ?_
            refine (AllReadyH.cons (o := { dst := some 9, op := Go.Op.alloc 30, type := 0, pos := "law.go:95", after := #[], guard := none }) rfl (fun K hK => ?_) AllReadyH.nil)
            · go_simp
              obtain ⟨w129, hW⟩ : ∃ x, x = w128.alloc (.cells #[.string ⟨#[]⟩, .string ⟨#[]⟩, .int .i64 0, .bool false, .string ⟨#[]⟩, .bool false, .string ⟨#[]⟩, .bool false, .string ⟨#[]⟩, .bool false, .string ⟨#[]⟩] 30) := ⟨_, rfl⟩
              have hg : Bel w128 w129 := by rw [hW]; exact bel_alloc _ _
              have hN : AtomAt w129 w128.heap.size zeroA := by rw [hW]; exact AtomAt.new w128 zeroA
              have hl : w5.heap.size ≤ w128.heap.size := hd28.size
              have hne : w128.heap.size ≠ g1 := Nat.ne_of_gt (AtomAt.lt hf1)
              rw [← hW]
              clear hW
              have hA29 := hA28.bel hg; have hB29 := hB28.bel hg; have hd29 := hd28.trans' hg
              replace hf1 := hf1.bel hg
              generalize w128.heap.size = g0 at hN hl hne ⊢
              have hf0 := hN; have hl0 := hl; clear hN hl
              replace hne := Ne.symm hne
              clear hg hA28 hB28 hd28
              first | refine hK.out _ _ ?_ (fun hHeld => ?_) | (go_wp2_with fail; refine hK.out _ _ ?_ (fun hHeld => ?_))
              · (try dsimp only); exact ⟨hA29.cells, hB29.cells⟩
              clear hK K hHeld
              try simp only [Act.put, List.setIfInBounds_toArray, List.set_cons_zero, List.set_cons_succ]
              have BD : RegA w5 w129 w.heap.size (w.heap.size + 1) a b g0 g1 u v (renD a i) (renD b k) := ⟨⟨hf0, hf1, hne, hl0, hl1, hd29⟩, hA29, hB29, HU.out, HV.out⟩
              clear hf1 hl1 hne hf0 hl0 HU HV hA29 hB29 hd29
              revert BD; revert v; revert u; revert g1; revert g0; revert w129
              exact key
          · go_simp
            obtain ⟨w130, hW⟩ : ∃ x, x = w127.alloc (.cells #[.string ⟨#[]⟩, .string ⟨#[]⟩, .int .i64 0, .bool false, .string ⟨#[]⟩, .bool false, .string ⟨#[]⟩, .bool false, .string ⟨#[]⟩, .bool false, .string ⟨#[]⟩] 30) := ⟨_, rfl⟩
            have hg : Bel w127 w130 := by rw [hW]; exact bel_alloc _ _
            have hN : AtomAt w130 w127.heap.size zeroA := by rw [hW]; exact AtomAt.new w127 zeroA
            have hl : w5.heap.size ≤ w127.heap.size := hd27.size
            have hne : w127.heap.size ≠ g1 := Nat.ne_of_gt (AtomAt.lt hf1)
            rw [← hW]
            clear hW
            have hA30 := hA27.bel hg; have hB30 := hB27.bel hg; have hd30 := hd27.trans' hg
            replace hf1 := hf1.bel hg
            generalize w127.heap.size = g0 at hN hl hne ⊢
            have hf0 := hN; have hl0 := hl; clear hN hl
            replace hne := Ne.symm hne
            clear hg hA27 hB27 hd27
            first | refine hK.out _ _ ?_ (fun hHeld => ?_) | (go_wp2_with fail; refine hK.out _ _ ?_ (fun hHeld => ?_))
            · (try dsimp only); exact ⟨hA30.cells, hB30.cells⟩
            clear hK K hHeld
            try simp only [Act.put, List.setIfInBounds_toArray, List.set_cons_zero, List.set_cons_succ]
            refine wpAnyH_ready (rs := [5]) (by kernel_rfl) (by simp) ?_
            refine (AllReadyH.cons (o := { dst := some 49, op := Go.Op.call { callee := Go.Callee.value (Go.Operand.func 10), args := #[Go.Operand.tmp 47, Go.Operand.tmp 48], argTypes := #[30, 3] }, type := 30, pos := "law.go:95", after := #[{ on := 3, ground := Go.Ground.data }, { on := 4, ground := Go.Ground.data }, { on := 2, ground := Go.Ground.chain }], guard := none }) rfl (fun K hK => ?_) AllReadyH.nil)
            · go_simp
              go_at_call 10
              refine (hX2.out _ hd30).mono ?_
              rintro e w131 ⟨⟨v, HV, rfl⟩, hg⟩
              have hA31 := hA30.bel hg; have hB31 := hB30.bel hg; have hd31 := hd30.trans' hg
              replace hf0 := hf0.bel hg
              replace hf1 := hf1.bel hg
              clear hg hA30 hB30 hd30
              first | refine hK.out _ _ ?_ (fun hHeld => ?_) | (go_wp2_with fail; refine hK.out _ _ ?_ (fun hHeld => ?_))
              · (try dsimp only); exact ⟨hA31.cells, hB31.cells⟩
              clear hK K hHeld
              try simp only [Act.put, List.setIfInBounds_toArray, List.set_cons_zero, List.set_cons_succ]
              have BD : RegA w5 w131 w.heap.size (w.heap.size + 1) a b g0 g1 u v (renD a i) (renD b k) := ⟨⟨hf0, hf1, hne, hl0, hl1, hd31⟩, hA31, hB31, HU.out, HV.out⟩
              clear hf1 hl1 hne hf0 hl0 HU HV hA31 hB31 hd31
              revert BD; revert v; revert u; revert g1; revert g0; revert w131
              exact key
        · go_simp
          obtain ⟨w132, hW⟩ : ∃ x, x = w126.alloc (.cells #[.string ⟨#[]⟩, .string ⟨#[]⟩, .int .i64 0, .bool false, .string ⟨#[]⟩, .bool false, .string ⟨#[]⟩, .bool false, .string ⟨#[]⟩, .bool false, .string ⟨#[]⟩] 30) := ⟨_, rfl⟩
          have hg : Bel w126 w132 := by rw [hW]; exact bel_alloc _ _
          have hN : AtomAt w132 w126.heap.size zeroA := by rw [hW]; exact AtomAt.new w126 zeroA
          have hl : w5.heap.size ≤ w126.heap.size := hd26.size
          have hne : w126.heap.size ≠ g1 := Nat.ne_of_gt (AtomAt.lt hf1)
          rw [← hW]
          clear hW
          have hA32 := hA26.bel hg; have hB32 := hB26.bel hg; have hd32 := hd26.trans' hg
          replace hf1 := hf1.bel hg
          generalize w126.heap.size = g0 at hN hl hne ⊢
          have hf0 := hN; have hl0 := hl; clear hN hl
          replace hne := Ne.symm hne
          clear hg hA26 hB26 hd26
          first | refine hK.out _ _ ?_ (fun hHeld => ?_) | (go_wp2_with fail; refine hK.out _ _ ?_ (fun hHeld => ?_))
          · (try dsimp only); exact ⟨hA32.cells, hB32.cells⟩
          clear hK K hHeld
          try simp only [Act.put, List.setIfInBounds_toArray, List.set_cons_zero, List.set_cons_succ]
          refine wpAnyH_ready (rs := [2]) (by kernel_rfl) (by simp) ?_
          refine (AllReadyH.cons (o := { dst := some 46, op := Go.Op.call { callee := Go.Callee.value (Go.Operand.func 10), args := #[Go.Operand.tmp 44, Go.Operand.tmp 45], argTypes := #[30, 3] }, type := 30, pos := "law.go:95", after := #[{ on := 0, ground := Go.Ground.data }, { on := 1, ground := Go.Ground.data }], guard := none }) rfl (fun K hK => ?_) AllReadyH.nil)
          · go_simp
            go_at_call 10
            refine (hX1.out _ hd32).mono ?_
            rintro e w133 ⟨⟨u, HU, rfl⟩, hg⟩
            have hA33 := hA32.bel hg; have hB33 := hB32.bel hg; have hd33 := hd32.trans' hg
            replace hf0 := hf0.bel hg
            replace hf1 := hf1.bel hg
            clear hg hA32 hB32 hd32
            first | refine hK.out _ _ ?_ (fun hHeld => ?_) | (go_wp2_with fail; refine hK.out _ _ ?_ (fun hHeld => ?_))
            · (try dsimp only); exact ⟨hA33.cells, hB33.cells⟩
            clear hK K hHeld
            try simp only [Act.put, List.setIfInBounds_toArray, List.set_cons_zero, List.set_cons_succ]
            refine wpAnyH_ready (rs := [5]) (by kernel_rfl) (by simp) ?_
            refine (AllReadyH.cons (o := { dst := some 49, op := Go.Op.call { callee := Go.Callee.value (Go.Operand.func 10), args := #[Go.Operand.tmp 47, Go.Operand.tmp 48], argTypes := #[30, 3] }, type := 30, pos := "law.go:95", after := #[{ on := 3, ground := Go.Ground.data }, { on := 4, ground := Go.Ground.data }, { on := 2, ground := Go.Ground.chain }], guard := none }) rfl (fun K hK => ?_) AllReadyH.nil)
            · go_simp
              go_at_call 10
              refine (hX2.out _ hd33).mono ?_
              rintro e w134 ⟨⟨v, HV, rfl⟩, hg⟩
              have hA34 := hA33.bel hg; have hB34 := hB33.bel hg; have hd34 := hd33.trans' hg
              replace hf0 := hf0.bel hg
              replace hf1 := hf1.bel hg
              clear hg hA33 hB33 hd33
              first | refine hK.out _ _ ?_ (fun hHeld => ?_) | (go_wp2_with fail; refine hK.out _ _ ?_ (fun hHeld => ?_))
              · (try dsimp only); exact ⟨hA34.cells, hB34.cells⟩
              clear hK K hHeld
              try simp only [Act.put, List.setIfInBounds_toArray, List.set_cons_zero, List.set_cons_succ]
              have BD : RegA w5 w134 w.heap.size (w.heap.size + 1) a b g0 g1 u v (renD a i) (renD b k) := ⟨⟨hf0, hf1, hne, hl0, hl1, hd34⟩, hA34, hB34, HU.out, HV.out⟩
              clear hf1 hl1 hne hf0 hl0 HU HV hA34 hB34 hd34
              revert BD; revert v; revert u; revert g1; revert g0; revert w134
              exact key
    · intro W g0 g1 u v BD
      refine wpAnyH_ready (rs := [8]) (by kernel_rfl) (by simp) ?_
      refine AllReadyH.cons (o := { dst := none, op := Go.Op.store 30 (Go.Operand.tmp 9) (Go.Operand.tmp 46), type := 0, pos := "law.go:95", after := #[{ on := 6, ground := Go.Ground.data }, { on := 2, ground := Go.Ground.data }, { on := 5, ground := Go.Ground.chain }, { on := 0, ground := Go.Ground.phase }, { on := 1, ground := Go.Ground.phase }, { on := 2, ground := Go.Ground.phase }, { on := 3, ground := Go.Ground.textOnly Go.Departure.lateStores }, { on := 4, ground := Go.Ground.textOnly Go.Departure.lateStores }, { on := 5, ground := Go.Ground.textOnly Go.Departure.lateStoresUnsure }, { on := 6, ground := Go.Ground.phase }, { on := 7, ground := Go.Ground.phase }], guard := none }) rfl (fun K hK => ?_) AllReadyH.nil
      refine step_store_atom rfl (.tmp 9) (.tmp 46) rfl g0 u rfl rfl BD.two.fst ?_
      intro w201 hx1 hb1 ho1
      have T3 := BD.two.next hx1 hb1 ho1
      have hA := HP1.out.bel T3.bel; have hB := HG1.out.bel T3.bel
      refine hK.out _ _ (⟨hA.cells, hB.cells⟩) (fun hHeld => ?_)
      clear hK K hHeld
      try simp only [Act.put, List.setIfInBounds_toArray, List.set_cons_zero, List.set_cons_succ]
      refine wpAnyH_ready (rs := [9]) (by kernel_rfl) (by simp) ?_
      refine AllReadyH.cons (o := { dst := none, op := Go.Op.store 30 (Go.Operand.tmp 10) (Go.Operand.tmp 49), type := 0, pos := "law.go:95", after := #[{ on := 7, ground := Go.Ground.data }, { on := 5, ground := Go.Ground.data }, { on := 8, ground := Go.Ground.chain }, { on := 0, ground := Go.Ground.phase }, { on := 1, ground := Go.Ground.phase }, { on := 2, ground := Go.Ground.phase }, { on := 3, ground := Go.Ground.phase }, { on := 4, ground := Go.Ground.phase }, { on := 5, ground := Go.Ground.phase }, { on := 6, ground := Go.Ground.phase }, { on := 7, ground := Go.Ground.phase }, { on := 8, ground := Go.Ground.phase }], guard := none }) rfl (fun K hK => ?_) AllReadyH.nil
      refine step_store_atom rfl (.tmp 10) (.tmp 49) rfl g1 v rfl rfl T3.snd ?_
      intro w202 hx2 hb2 ho2
      have T4 := T3.last hx2 hb2 ho2
      replace hA := HP1.out.bel T4.2.2; replace hB := HG1.out.bel T4.2.2
      refine hK.out _ _ (⟨hA.cells, hB.cells⟩) (fun hHeld => ?_)
      clear hK K hHeld
      try simp only [Act.put, List.setIfInBounds_toArray, List.set_cons_zero, List.set_cons_succ]
      refine wpAnyH_done (by kernel_rfl) ?_ _
      go_wp2_with fail
      go_meet
      exact ⟨_, _, u, v, rfl, rfl, Lib.hid ⟨BD.eu, BD.ev, T4.1, T4.2.1, T4.2.2⟩⟩
  obtain ⟨b11, b12, x, y, rfl, rfl, HC2⟩ := hcut
  have HX := Lib.hid HC2.out.1
  have HY := Lib.hid HC2.out.2.1
  have HBc := Lib.hid HC2.out.2.2.2.2
  have HXa := Lib.hid HC2.out.2.2.1
  have HYa := Lib.hid HC2.out.2.2.2.1
  have HB2 := Lib.hid (HB1.out.trans' HBc.out)
  have HA2 := Lib.hid (HP1.out.bel HBc.out)
  clear HC2 hX1 hX2
  obtain ⟨vs, hvs⟩ : ∃ vs, vs = varsA x := ⟨_, rfl⟩
  obtain ⟨ws, hws⟩ : ∃ ws, ws = varsA y := ⟨_, rfl⟩
  have HVS : RowKit.Hid (vs = (varsA a).map (· ++ tagD i)) := Lib.hid (by rw [hvs, HX.out]; exact vars_ren a i)
  have HWS : RowKit.Hid (ws = (varsA b).map (· ++ tagD k)) := Lib.hid (by rw [hws, HY.out]; exact vars_ren b k)
  have hvl : vs.length = (varsA a).length := by rw [HVS.out, List.length_map]
  have hwl : ws.length = (varsA b).length := by rw [HWS.out, List.length_map]
  have hv4 : vs.length ≤ 4 := by rw [hvl]; exact varsA_len a
  have hw4 : ws.length ≤ 4 := by rw [hwl]; exact varsA_len b
  have HVL := Lib.hid hvl
  clear hvl hwl
  have hV1 := Lib.hid (fun W => rvars_any x W _ rfl)
  rw [show namesD true ((argsD x).take (cntI x.n)) = varsA x from rfl, ← hvs] at hV1
  have hV2 := Lib.hid (fun W => rvars_any y W _ rfl)
  rw [show namesD true ((argsD y).take (cntI y.n)) = varsA y from rfl, ← hws] at hV2
  have hV3 := Lib.hid (fun W => rvars_any a W _ rfl)
  rw [show namesD true ((argsD a).take (cntI a.n)) = varsA a from rfl] at hV3
  clear hvs hws
  have hX := HXa.out.drew; have hY := HYa.out.drew; have hd : Bel wc wc.drew := bel_drew' (Below.refl _ _)
  go_wp2
  go_region_held3 (fun w' => (w'.cell? ⟨b11, 0, none⟩ = some (.string x.says) ∧ w'.cell? ⟨b11, 1, none⟩ = some (.string x.pred) ∧ w'.cell? ⟨b11, 2, none⟩ = some (.int .i64 x.n) ∧ w'.cell? ⟨b11, 3, none⟩ = some (.bool x.t0.v) ∧ w'.cell? ⟨b11, 4, none⟩ = some (.string x.t0.name) ∧ w'.cell? ⟨b11, 5, none⟩ = some (.bool x.t1.v) ∧ w'.cell? ⟨b11, 6, none⟩ = some (.string x.t1.name) ∧ w'.cell? ⟨b11, 7, none⟩ = some (.bool x.t2.v) ∧ w'.cell? ⟨b11, 8, none⟩ = some (.string x.t2.name) ∧ w'.cell? ⟨b11, 9, none⟩ = some (.bool x.t3.v) ∧ w'.cell? ⟨b11, 10, none⟩ = some (.string x.t3.name)) ∧ (w'.cell? ⟨b12, 0, none⟩ = some (.string y.says) ∧ w'.cell? ⟨b12, 1, none⟩ = some (.string y.pred) ∧ w'.cell? ⟨b12, 2, none⟩ = some (.int .i64 y.n) ∧ w'.cell? ⟨b12, 3, none⟩ = some (.bool y.t0.v) ∧ w'.cell? ⟨b12, 4, none⟩ = some (.string y.t0.name) ∧ w'.cell? ⟨b12, 5, none⟩ = some (.bool y.t1.v) ∧ w'.cell? ⟨b12, 6, none⟩ = some (.string y.t1.name) ∧ w'.cell? ⟨b12, 7, none⟩ = some (.bool y.t2.v) ∧ w'.cell? ⟨b12, 8, none⟩ = some (.string y.t2.name) ∧ w'.cell? ⟨b12, 9, none⟩ = some (.bool y.t3.v) ∧ w'.cell? ⟨b12, 10, none⟩ = some (.string y.t3.name))) (first | with_reducible exact ⟨hX.cells, hY.cells⟩ | exact ⟨hX.cells, hY.cells⟩ | go_keep | trivial)
    (first | (go_at_call 17; have hgate := hV1; refine (hV1.out _).mono ?_; rintro e w60 ⟨⟨A1, k1, HL1, rfl⟩, hg⟩; replace hX := hX.bel hg; replace hY := hY.bel hg; replace hd := hd.trans' hg; clear hg hV1 hgate) | (go_at_call 17; refine (hV2.out _).mono ?_; rintro e w61 ⟨⟨A2, k2, HL2, rfl⟩, hg⟩; replace hX := hX.bel hg; replace hY := hY.bel hg; replace hd := hd.trans' hg; have HL1 := Lib.hid (ListAt.belY HL1.out hg); clear hg hV2))
  have HD := Lib.hid hd
  have HXd := Lib.hid hX
  clear hX hY hd
  have HBd := Lib.hid (HB2.out.trans' HD.out)
  have HAd := Lib.hid (HA2.out.bel HD.out)
  go_wp2
  go_loopw [13] (fun s wr => ∃ g : Nat, g ≤ vs.length ∧ s = .int .i64 g ∧ RowKit.Hid (Bel w61 wr)) (fun s _ => vs.length - (intOf s).toNat)
  case atStart => exact ⟨0, Nat.zero_le _, rfl, Lib.hid (Below.refl _ _)⟩
  case round =>
    obtain ⟨g, hg0, rfl, HW⟩ := hrel
    by_cases hlt : g < vs.length
    case neg =>
      obtain rfl : g = vs.length := by omega
      have hlt2 : ¬ ((vs.length : Int) < (vs.length : Int)) := by omega
      have hX := (HXd.out.bel HW.out).drew; have hA := (HAd.out.bel HW.out).drew; have hd := bel_drew' (HBc.out.trans' (HD.out.trans' HW.out))
      have hwr : IntKind.i64.wrap ((i : Int) + 1) = (i : Int) + 1 := IntWalk.i64_in _ ⟨by omega, by omega⟩
      have HU2 := Lib.hid (fun (z : AtomD) W => Unify_any x z W)
      clear hlt hg0
      go_wp2
      go_region_held3 (fun w' => (w'.cell? ⟨b11, 0, none⟩ = some (.string x.says) ∧ w'.cell? ⟨b11, 1, none⟩ = some (.string x.pred) ∧ w'.cell? ⟨b11, 2, none⟩ = some (.int .i64 x.n) ∧ w'.cell? ⟨b11, 3, none⟩ = some (.bool x.t0.v) ∧ w'.cell? ⟨b11, 4, none⟩ = some (.string x.t0.name) ∧ w'.cell? ⟨b11, 5, none⟩ = some (.bool x.t1.v) ∧ w'.cell? ⟨b11, 6, none⟩ = some (.string x.t1.name) ∧ w'.cell? ⟨b11, 7, none⟩ = some (.bool x.t2.v) ∧ w'.cell? ⟨b11, 8, none⟩ = some (.string x.t2.name) ∧ w'.cell? ⟨b11, 9, none⟩ = some (.bool x.t3.v) ∧ w'.cell? ⟨b11, 10, none⟩ = some (.string x.t3.name)) ∧ (w'.cell? ⟨w.heap.size, 0, none⟩ = some (.string a.says) ∧ w'.cell? ⟨w.heap.size, 1, none⟩ = some (.string a.pred) ∧ w'.cell? ⟨w.heap.size, 2, none⟩ = some (.int .i64 a.n) ∧ w'.cell? ⟨w.heap.size, 3, none⟩ = some (.bool a.t0.v) ∧ w'.cell? ⟨w.heap.size, 4, none⟩ = some (.string a.t0.name) ∧ w'.cell? ⟨w.heap.size, 5, none⟩ = some (.bool a.t1.v) ∧ w'.cell? ⟨w.heap.size, 6, none⟩ = some (.string a.t1.name) ∧ w'.cell? ⟨w.heap.size, 7, none⟩ = some (.bool a.t2.v) ∧ w'.cell? ⟨w.heap.size, 8, none⟩ = some (.string a.t2.name) ∧ w'.cell? ⟨w.heap.size, 9, none⟩ = some (.bool a.t3.v) ∧ w'.cell? ⟨w.heap.size, 10, none⟩ = some (.string a.t3.name))) (first | with_reducible exact ⟨hX.cells, hA.cells⟩ | exact ⟨hX.cells, hA.cells⟩ | go_keep | trivial)
        (first | (go_at_call 10; refine (hX3.out _ hd).mono ?_; rintro e w62 ⟨⟨z, HZ, rfl⟩, hg⟩; replace hX := hX.bel hg; replace hA := hA.bel hg; replace hd := hd.trans' hg; clear hg hX3) | (go_at_call 7; refine (HU2.out _ _).mono ?_; rintro e w63 ⟨⟨q3, k3, l3, is, HE3, HL3, rfl⟩, hg⟩; obtain rfl : true = is := ((congrArg Prod.snd HE3.out).trans (by rw [HX.out, HZ.out]; exact marks_unify HCA.out i (i + 1))).symm; replace hX := hX.bel hg; replace hA := hA.bel hg; replace hd := hd.trans' hg; clear hg))
      have hA2 := hA.drew; have hd2 := bel_drew' hd
      have hRn := Lib.hid (fun W => RenameNo_any a W (-1) (by omega))
      have hTx := Lib.hid (fun W => rtext_any a W HSA.out)
      have hqt : ((textD a).toList == (textD a).toList) = true := by simp
      have hql : ((vs.length : Int) == ((varsA a).length : Int)) = true := by rw [HVL.out]; simp
      clear hA hd
      go_wp2
      go_region_held3 (fun w' => (w'.cell? ⟨w.heap.size, 0, none⟩ = some (.string a.says) ∧ w'.cell? ⟨w.heap.size, 1, none⟩ = some (.string a.pred) ∧ w'.cell? ⟨w.heap.size, 2, none⟩ = some (.int .i64 a.n) ∧ w'.cell? ⟨w.heap.size, 3, none⟩ = some (.bool a.t0.v) ∧ w'.cell? ⟨w.heap.size, 4, none⟩ = some (.string a.t0.name) ∧ w'.cell? ⟨w.heap.size, 5, none⟩ = some (.bool a.t1.v) ∧ w'.cell? ⟨w.heap.size, 6, none⟩ = some (.string a.t1.name) ∧ w'.cell? ⟨w.heap.size, 7, none⟩ = some (.bool a.t2.v) ∧ w'.cell? ⟨w.heap.size, 8, none⟩ = some (.string a.t2.name) ∧ w'.cell? ⟨w.heap.size, 9, none⟩ = some (.bool a.t3.v) ∧ w'.cell? ⟨w.heap.size, 10, none⟩ = some (.string a.t3.name))) (first | with_reducible exact hA2.cells | exact hA2.cells | go_keep | trivial)
        (first | (go_at_call 10; refine (hRn.out _).mono ?_; rintro e w64 ⟨⟨z, HZ, rfl⟩, hg⟩; obtain rfl : a = z := HZ.out.symm; replace hA2 := hA2.bel hg; replace hd2 := hd2.trans' hg; clear hg) | (go_at_call 18; refine (hTx.out _).mono ?_; rintro e w65 ⟨rfl, hg⟩; replace hA2 := hA2.bel hg; replace hd2 := hd2.trans' hg; clear hg) | (go_at_call 17; refine (hV3.out _).mono ?_; rintro e w66 ⟨⟨A3, k3, HL3, rfl⟩, hg⟩; replace hA2 := hA2.bel hg; replace hd2 := hd2.trans' hg; clear hg))
      all_goals go_wp2
      all_goals go_ret
      all_goals exact ⟨rfl, HB1.out.trans' hd2⟩
    have hgi : (0 : Int) ≤ g := by omega
    have hgl : (g : Int) < vs.length := by omega
    obtain ⟨_, hLc⟩ := HL1.out
    rcases hLc with h0 | ⟨bv, ov, rfl, hbv, hLc⟩
    · omega
    have hga : g < (varsA a).length := by rw [← HVL.out]; exact hlt
    obtain ⟨X, hXX⟩ : ∃ X, X = (varsA a)[g] := ⟨_, rfl⟩
    have HXm : RowKit.Hid (X ∈ varsA a) := Lib.hid (by rw [hXX]; exact List.getElem_mem hga)
    have hxv : vs[g]? = some (X ++ tagD i) := by rw [HVS.out, List.getElem?_map, List.getElem?_eq_getElem hga, ← hXX]; rfl
    have cv := cell_bel (hLc g (.string (X ++ tagD i)) (by rw [List.getElem?_map, hxv]; rfl)) HW.out
    have HAG : RowKit.Hid ((varsA a)[g]? = some X) := Lib.hid (by rw [List.getElem?_eq_getElem hga, hXX])
    have hga2 : (g : Int) < (varsA a).length := by omega
    have hA := HAd.out.bel HW.out
    have hb := HBd.out.trans' HW.out
    have hMk := Lib.hid (fun W (hg : Bel w W) => Marked_yes X i W (pos_of_ne (vars_nee HCA.out X HXm.out)) (Nat.le_trans (vars_sm HSA.out HXm.out) (by omega)) (by omega) ((HIT.out i (by omega)).bel hg))
    clear hxv hXX hga hbv
    go_wp2_with (fail)
    refine (hMk.out _ hb).mono ?_
    rintro e w70 ⟨rfl, hg⟩
    replace hA := hA.bel hg; replace hb := hb.trans' hg; have HW70 := Lib.hid (HW.out.trans' hg)
    clear hg hMk cv
    obtain ⟨c0, c1, c2, c3, c4, c5, c6, c7, c8, c9, c10⟩ := hA.cells
    have hqi : ((i : Int) != (i : Int)) = false := by simp
    have hqx : (X.toList != X.toList) = false := by simp
    have hqx2 : (X.toList == X.toList) = true := by simp
    have hqi2 : ((i : Int) == (i : Int)) = true := by simp
    go_wp2_with (fail)
    refine (hV3.out _).mono ?_
    rintro e w71 ⟨⟨A3, k3, HL3, rfl⟩, hg⟩
    have HW71 := Lib.hid (HW70.out.trans' hg)
    replace hb := hb.trans' hg
    clear hg c0 c1 c2 c3 c4 c5 c6 c7 c8 c9 c10 hA
    obtain ⟨_, hLd⟩ := HL3.out
    rcases hLd with h0 | ⟨b3, o3, rfl, hb3, hLd⟩
    · omega
    have c3 := hLd g (.string X) (by rw [List.getElem?_map, HAG.out]; rfl)
    clear hLd hb3
    have HB71 := Lib.hid hb
    clear hb
    go_wp2
    clear c3
    go_loopw [17] (fun s wi => ∃ j : Nat, j ≤ ws.length ∧ s = .int .i64 j ∧ RowKit.Hid (Bel w61 wi)) (fun s _ => ws.length - (intOf s).toNat)
    case atStart => exact ⟨0, Nat.zero_le _, rfl, HW71⟩
    case round =>
      obtain ⟨j, hj0, rfl, HWi⟩ := hrel
      by_cases hjl : j < ws.length
      case neg =>
        obtain rfl : j = ws.length := by omega
        have hjn : ¬ ((ws.length : Int) < (ws.length : Int)) := by omega
        clear hjl hj0
        go_wp2
        go_roundw
        case rel => exact ⟨g + 1, by omega, by go_num, HWi⟩
        case measure => simp [intOf]; omega
      have hji : (0 : Int) ≤ j := by omega
      have hjj : (j : Int) < ws.length := by omega
      obtain ⟨_, hLe⟩ := HL2.out
      rcases hLe with h0 | ⟨bw, ow, rfl, hbw, hLe⟩
      · omega
      have hjb : j < (varsA b).length := by have := congrArg List.length HWS.out; rw [List.length_map] at this; omega
      obtain ⟨Y, hYY⟩ : ∃ Y, Y = (varsA b)[j] := ⟨_, rfl⟩
      have HYm : RowKit.Hid (Y ∈ varsA b) := Lib.hid (by rw [hYY]; exact List.getElem_mem hjb)
      have hyv : ws[j]? = some (Y ++ tagD k) := by rw [HWS.out, List.getElem?_map, List.getElem?_eq_getElem hjb, ← hYY]; rfl
      have cw := cell_bel (hLe j (.string (Y ++ tagD k)) (by rw [List.getElem?_map, hyv]; rfl)) HWi.out
      have hxv : vs[g]? = some (X ++ tagD i) := by rw [HVS.out, List.getElem?_map, HAG.out]; rfl
      have cv := cell_bel (hLc g (.string (X ++ tagD i)) (by rw [List.getElem?_map, hxv]; rfl)) HWi.out
      have HNE : RowKit.Hid (i ≠ k → (X ++ tagD i).toList ≠ (Y ++ tagD k).toList) := Lib.hid (fun hne he => hne (tag_inj (by omega) (by omega) (vars_okb HCA.out HXm.out) (vars_okb HCB.out HYm.out) (ba_ext he)).2)
      clear hxv hyv hYY hjb hbw hLe
      generalize X ++ tagD i = xs at cv HNE
      generalize Y ++ tagD k = ys at cw HNE
      by_cases hik : i = k
      · have hqk : ((i : Int) != (k : Int)) = false := by rw [hik]; simp
        clear hik HNE
        go_wp2
        go_quiet (fail)
        go_wp2
        go_roundw
        case rel => exact ⟨j + 1, by omega, by go_num, Lib.hid (HWi.out.trans' (by first | exact Below.refl _ _ | exact bel_drewN _ _ | exact bel_drew' (Below.refl _ _)))⟩
        case measure => simp [intOf]; omega
      · have hqk : ((i : Int) != (k : Int)) = true := by simp; omega
        have hqs : (xs.toList == ys.toList) = false := by rw [beq_eq_false_iff_ne]; exact HNE.out hik
        clear hik HNE
        go_wp2
        go_quiet (fail)
        go_wp2
        go_roundw
        case rel => exact ⟨j + 1, by omega, by go_num, Lib.hid (HWi.out.trans' (by first | exact Below.refl _ _ | exact bel_drewN _ _ | exact bel_drew' (Below.refl _ _)))⟩
        case measure => simp [intOf]; omega
end Go.Proofs.YtkcnbdlhggoojaaDoor
