/-
  The law SubstBinds for every input. Conditions: what came in lies as its parameters' types say.
-/
import Derived.Test.YtdmdefdiglpgaaaSbW
namespace Go.Proofs.Ytdmdefdiglpgaaa
open Go.RowKit

theorem bind_cases {l : List BindD} {v : ByteArray} {t : TermD} (hc : checkB l = true) :
    (∃ m n, bindD l v t = (m, n) ∧ m = [] ∧ n ≠ 0 ∧ ((getR l v).2 = true ∨ v = emp ∨ t.name = emp ∨ subT l t = ⟨true, v⟩)) ∨
    (∃ m n, bindD l v t = (m, n) ∧ n = 0 ∧ getB l v = none ∧ checkB m = true ∧ m.length = l.length + 1 ∧ getB m v = some (subT l t) ∧
      (∀ i (h : i < l.length), getB m l[i].v = some (subT [⟨v, subT l t⟩] l[i].t)) ∧ (∀ x, subT m x = subT [⟨v, subT l t⟩] (subT l x))) := by
  by_cases h2 : v = emp ∨ t.name = emp
  · exact .inl ⟨_, _, bind_arg hc h2, rfl, by decide, .inr (h2.elim .inl (fun h => .inr (.inl h)))⟩
  · cases h3 : (getB l v).isSome with
    | true => exact .inl ⟨_, _, bind_twice hc h2 h3, rfl, by decide, .inl (by rw [getR_snd, h3])⟩
    | false =>
      cases h4 : selfB ⟨v, subT l t⟩ with
      | true => exact .inl ⟨_, _, bind_self hc h2 h3 h4, rfl, by decide, .inr (.inr (.inr (selfB_iff.1 h4)))⟩
      | false =>
        have hb := bind_ok hc h2 h3 h4
        have hn : getB l v = none := by cases e : getB l v with | none => rfl | some u => rw [e] at h3; cases h3
        refine .inr ⟨_, _, hb, rfl, hn, bind_check hc hb, (by rw [putB_len, List.length_map]), (by rw [bind_get hc hb, if_pos rfl]), fun i h => ?_, bind_sub hc hb⟩
        have hne := getB_none.1 hn l[i] (List.getElem_mem h)
        rw [bind_get hc hb, if_neg hne, getB_of_mem (checkB_iff.1 hc).1 (List.getElem_mem h)]
        rfl
theorem made_len (l : List BindD) : (madeL l).length ≤ l.length := by
  unfold madeL
  suffices h : ∀ (l out : List BindD), (l.foldl stepM out).length ≤ out.length + l.length by simpa using h l []
  intro l
  induction l with
  | nil => intro out; simp
  | cons b l ih =>
    intro out
    have h1 := ih (stepM out b)
    have h2 := stepM_len out b
    simp only [List.foldl_cons, List.length_cons]
    omega
theorem Term_len (A : Option Addr) (l : List BindD) (n ca : Nat) (hn : l.length = n) (t : TermD) (w : World) (hL : BL w A ca l) (hl : l.length ≤ 1000000) :
    Calls Try.prog 17 #[.slice A n ca, .agg #[.bool t.v, .string t.name]] w fun e w' => (∃ u, RowKit.Hid (u = subT l t) ∧ e = .returned (.agg #[.bool u.v, .string u.name])) ∧ Bel w w' := by
  subst hn
  exact Term_any A l ca t w hL hl
theorem Apply_len (A : Option Addr) (l : List BindD) (n ca : Nat) (hn : l.length = n) (a : AtomD) (w : World) (hL : BL w A ca l) (hl : l.length ≤ 1000000) :
    Calls Try.prog 29 #[.slice A n ca, .agg #[.string a.says, .string a.pred, .int .i64 a.n, .bool a.t0.v, .string a.t0.name, .bool a.t1.v, .string a.t1.name, .bool a.t2.v, .string a.t2.name, .bool a.t3.v, .string a.t3.name]] w fun e w' => (∃ q, RowKit.Hid (q = applyA l a) ∧ e = .returned (.agg #[.string q.says, .string q.pred, .int .i64 q.n, .bool q.t0.v, .string q.t0.name, .bool q.t1.v, .string q.t1.name, .bool q.t2.v, .string q.t2.name, .bool q.t3.v, .string q.t3.name])) ∧ Bel w w' := by
  subst hn
  exact Apply_any A l ca a w hL hl
theorem getR_of {l : List BindD} {v : ByteArray} {t : TermD} (h : getB l v = some t) : getR l v = (t, true) := getR_some h

set_option maxRecDepth 20000 in
set_option maxHeartbeats 16000000 in
theorem lawSubstBinds (A : Option Addr) (l : List BindD) (ca : Nat) (v : ByteArray) (tv : Bool) (ts : ByteArray) (x : AtomD) (w : World) (hL : BL w A ca l) (hx : AtomOk x)
    (hll : l.length ≤ 9223372036854775807) (hkl : BindsOk l) (hvz : v.size ≤ 9223372036854775807) (htz : ts.size ≤ 9223372036854775807) :
    Calls Try.prog 6 #[.slice A l.length ca, .string v, .agg #[.bool tv, .string ts], .agg #[.string x.says, .string x.pred, .int .i64 x.n, .bool x.t0.v, .string x.t0.name, .bool x.t1.v, .string x.t1.name, .bool x.t2.v, .string x.t2.name, .bool x.t3.v, .string x.t3.name]] w fun e w' => e = .returned (.bool true) ∧ Bel w w' := by
  have hb1 := bel_alloc w (.cells #[.bool tv, .string ts] 29)
  have hb2 := bel_alloc (w.alloc (.cells #[.bool tv, .string ts] 29)) (.cells #[.string x.says, .string x.pred, .int .i64 x.n, .bool x.t0.v, .string x.t0.name, .bool x.t1.v, .string x.t1.name, .bool x.t2.v, .string x.t2.name, .bool x.t3.v, .string x.t3.name] 43)
  have hb := hb1.trans' hb2
  have hT : TermAt ((w.alloc (.cells #[.bool tv, .string ts] 29)).alloc (.cells #[.string x.says, .string x.pred, .int .i64 x.n, .bool x.t0.v, .string x.t0.name, .bool x.t1.v, .string x.t1.name, .bool x.t2.v, .string x.t2.name, .bool x.t3.v, .string x.t3.name] 43)) w.heap.size ⟨tv, ts⟩ := (TermAt.new w ⟨tv, ts⟩).bel hb2
  have hX := AtomAt.new (w.alloc (.cells #[.bool tv, .string ts] 29)) x
  rw [show (w.alloc (.cells #[.bool tv, .string ts] 29)).heap.size = w.heap.size + 1 by simp] at hX
  clear hb1 hb2
  have HL := Lib.hid hL
  have HKL := Lib.hid hkl
  clear hL hkl
  have hLl := Lib.hid (fun W (hg : Bel w W) => lightBs_any A l ca W (HL.out.bel hg) hll HKL.out)
  have hLx := Lib.hid (fun W => light_any x W hx)
  cases hl1 : lightBs l
  · rw [hl1] at hLl
    clear hl1
    go_enter Try.func6, Try.ntmps6
    go_wp2_with (first | (go_at_call 9; refine (lives4_any _).mono ?_; rintro e w1 ⟨rfl, hg⟩; have hT := hT.bel hg; have hX := hX.bel hg; have hb := hb.trans' hg; clear hg) | (go_at_call 20; refine (hLl.out _ hb).mono ?_; rintro e w2 ⟨rfl, hg⟩; have hT := hT.bel hg; have hX := hX.bel hg; have hb := hb.trans' hg; obtain ⟨c0, c1, c2, c3, c4, c5, c6, c7, c8, c9, c10⟩ := hX.cells; clear hg))
    go_ret
    exact ⟨rfl, hb⟩
  rw [hl1] at hLl
  cases hx1 : lightA x
  · rw [hx1] at hLx
    clear hl1 hx1
    go_enter Try.func6, Try.ntmps6
    go_wp2_with (first | (go_at_call 9; refine (lives4_any _).mono ?_; rintro e w1 ⟨rfl, hg⟩; have hT := hT.bel hg; have hX := hX.bel hg; have hb := hb.trans' hg; clear hg) | (go_at_call 20; refine (hLl.out _ hb).mono ?_; rintro e w2 ⟨rfl, hg⟩; have hT := hT.bel hg; have hX := hX.bel hg; have hb := hb.trans' hg; obtain ⟨c0, c1, c2, c3, c4, c5, c6, c7, c8, c9, c10⟩ := hX.cells; clear hg) | (go_at_call 21; refine (hLx.out _).mono ?_; rintro e w3 ⟨rfl, hg⟩; have hT := hT.bel hg; have hX := hX.bel hg; have hb := hb.trans' hg; have d0 : World.cell? _ _ = some (.bool tv) := hT.cells.1; have d1 : World.cell? _ _ = some (.string ts) := hT.cells.2; clear hg))
    go_ret
    exact ⟨rfl, hb⟩
  rw [hx1] at hLx
  by_cases hv3 : (v.size : Int) ≤ 300
  case neg =>
    clear hl1 hx1
    go_enter Try.func6, Try.ntmps6
    go_wp2_with (first | (go_at_call 9; refine (lives4_any _).mono ?_; rintro e w1 ⟨rfl, hg⟩; have hT := hT.bel hg; have hX := hX.bel hg; have hb := hb.trans' hg; clear hg) | (go_at_call 20; refine (hLl.out _ hb).mono ?_; rintro e w2 ⟨rfl, hg⟩; have hT := hT.bel hg; have hX := hX.bel hg; have hb := hb.trans' hg; obtain ⟨c0, c1, c2, c3, c4, c5, c6, c7, c8, c9, c10⟩ := hX.cells; clear hg) | (go_at_call 21; refine (hLx.out _).mono ?_; rintro e w3 ⟨rfl, hg⟩; have hT := hT.bel hg; have hX := hX.bel hg; have hb := hb.trans' hg; have d0 : World.cell? _ _ = some (.bool tv) := hT.cells.1; have d1 : World.cell? _ _ = some (.string ts) := hT.cells.2; clear hg))
    go_ret
    exact ⟨rfl, hb⟩
  by_cases ht3 : (ts.size : Int) ≤ 300
  case neg =>
    clear hl1 hx1
    go_enter Try.func6, Try.ntmps6
    go_wp2_with (first | (go_at_call 9; refine (lives4_any _).mono ?_; rintro e w1 ⟨rfl, hg⟩; have hT := hT.bel hg; have hX := hX.bel hg; have hb := hb.trans' hg; clear hg) | (go_at_call 20; refine (hLl.out _ hb).mono ?_; rintro e w2 ⟨rfl, hg⟩; have hT := hT.bel hg; have hX := hX.bel hg; have hb := hb.trans' hg; obtain ⟨c0, c1, c2, c3, c4, c5, c6, c7, c8, c9, c10⟩ := hX.cells; clear hg) | (go_at_call 21; refine (hLx.out _).mono ?_; rintro e w3 ⟨rfl, hg⟩; have hT := hT.bel hg; have hX := hX.bel hg; have hb := hb.trans' hg; have d0 : World.cell? _ _ = some (.bool tv) := hT.cells.1; have d1 : World.cell? _ _ = some (.string ts) := hT.cells.2; clear hg))
    go_ret
    exact ⟨rfl, hb⟩
  have hl20 : l.length ≤ 20 := by
    unfold lightBs at hl1
    simp only [Bool.and_eq_true, decide_eq_true_eq] at hl1
    omega
  clear hl1 hx1 hll hvz htz
  obtain ⟨P, hP⟩ : ∃ P, P = madeL l := ⟨_, rfl⟩
  have hMl := Lib.hid (fun W (hg : Bel w W) => made4_any A l ca W (HL.out.bel hg) (by omega))
  have HPc : RowKit.Hid (checkB P = true) := Lib.hid (by rw [hP]; exact made_check l)
  have HP := Lib.hid hP
  clear hP
  have hcc := bind_cases (v := v) (t := ⟨tv, ts⟩) HPc.out
  have HBL := Lib.hid (bindD_len P v ⟨tv, ts⟩)
  have hgt : w.heap.size < w.heap.size + 1 := by omega
  rcases hcc with ⟨m, n, hcd, rfl, hn0, hor⟩ | ⟨m, n, hcd, rfl, hgn, hck, hml, hgm, hgi, hsm⟩
  · have HCD := Lib.hid hcd
    have hn2 : (n != 0) = true := by simpa using hn0
    have hn1 : (n == 0) = false := by simpa using hn0
    clear hcd
    obtain ⟨r, hr⟩ : ∃ r, r = getR P v := ⟨_, rfl⟩
    have HR := Lib.hid hr
    rw [← hr] at hor
    clear hr
    obtain ⟨r1, r2⟩ := r
    cases r2
    case true =>
      clear hor hn0
      go_enter Try.func6, Try.ntmps6
      go_wp2_with (first | (go_at_call 9; refine (lives4_any _).mono ?_; rintro e w1 ⟨rfl, hg⟩; have hT := hT.bel hg; have hX := hX.bel hg; have hb := hb.trans' hg; clear hg) | (go_at_call 20; refine (hLl.out _ hb).mono ?_; rintro e w2 ⟨rfl, hg⟩; have hT := hT.bel hg; have hX := hX.bel hg; have hb := hb.trans' hg; obtain ⟨c0, c1, c2, c3, c4, c5, c6, c7, c8, c9, c10⟩ := hX.cells; clear hg) | (go_at_call 21; refine (hLx.out _).mono ?_; rintro e w3 ⟨rfl, hg⟩; have hT := hT.bel hg; have hX := hX.bel hg; have hb := hb.trans' hg; have d0 : World.cell? _ _ = some (.bool tv) := hT.cells.1; have d1 : World.cell? _ _ = some (.string ts) := hT.cells.2; clear hg) | (go_at_call 32; refine (hMl.out _ hb).mono ?_; rintro e w4 ⟨⟨q1, k1, o1, HO1, HB1, rfl⟩, hg⟩; obtain rfl : o1 = P := HO1.out.1.trans HP.out.symm; have hT := hT.bel hg; have hX := hX.bel hg; have hb := hb.trans' hg; have d0 : World.cell? _ _ = some (.bool tv) := hT.cells.1; have d1 : World.cell? _ _ = some (.string ts) := hT.cells.2; clear hg))
      have hl1 : o1.length ≤ 100000 := Nat.le_trans HO1.out.2 (by omega)
      have hd : Bel w4 w4.drew := bel_drew' (Below.refl _ _)
      have hTd : TermAt w4.drew w.heap.size ⟨tv, ts⟩ := hT
      have hOw := Lib.hid (ownB_any q1 o1 o1.length k1 rfl w4.drew (HB1.out.bel hd) hl1)
      go_region_held3 (fun w' => w'.cell? ⟨w.heap.size, 0, none⟩ = some (.bool tv) ∧ w'.cell? ⟨w.heap.size, 1, none⟩ = some (.string ts)) (first | go_keep | trivial)
        (first | (go_at_call 24; refine hOw.out.mono ?_; rintro e w5 ⟨⟨q2, k2, HO2, rfl⟩, hg⟩; have hd := hd.trans' hg; have hTd := hTd.bel hg; have z0 : w5.cell? ⟨w.heap.size, 0, none⟩ = some (.bool tv) := hTd.cells.1; have z1 : w5.cell? ⟨w.heap.size, 1, none⟩ = some (.string ts) := hTd.cells.2; clear hg) | (go_at_call 10; refine (Bind_any q2 o1 k2 v ⟨tv, ts⟩ _ (OwnL.slice EB HO2.out) hl1).mono ?_; rintro e w6 ⟨⟨q3, k3, o3, n3, HE3, HO3, rfl⟩, hg⟩; obtain ⟨rfl, rfl⟩ := Prod.mk.inj (HE3.out.trans HCD.out); have hd := hd.trans' hg; have hTd := hTd.bel hg; have z0 : w6.cell? ⟨w.heap.size, 0, none⟩ = some (.bool tv) := hTd.cells.1; have z1 : w6.cell? ⟨w.heap.size, 1, none⟩ = some (.string ts) := hTd.cells.2; clear hg))
      have HB1 := Lib.hid (HB1.out.bel hd)
      have hT := hT.bel hd
      have hX := hX.bel hd
      have hb := hb.trans' hd
      clear hd hTd hOw z0 z1 d0 d1
      have hG := Lib.hid (Get_any q1 o1 o1.length k1 rfl v w6 HB1.out (by omega))
      rw [← HR.out] at hG
      go_wp2_with (fail)
      refine hG.out.mono ?_
      rintro e w7 ⟨⟨g7, i7, HG7, rfl⟩, hg⟩
      obtain ⟨rfl, rfl⟩ := Prod.mk.inj HG7.out
      have HB7 := Lib.hid (hg.trans' (bel_alloc w7 (.cells #[.bool g7.v, .string g7.name] 29)))
      have HB1 := Lib.hid (HB1.out.bel HB7.out)
      have HM := Lib.hid ((OwnL.slice EB HO3.out).bel HB7.out)
      have hT := hT.bel HB7.out
      have hX := hX.bel HB7.out
      have hb := hb.trans' HB7.out
      have d0 : World.cell? _ _ = some (.bool tv) := hT.cells.1
      have d1 : World.cell? _ _ = some (.string ts) := hT.cells.2
      clear hg hG HB7
      go_wp2
      go_ret
      exact ⟨rfl, hb⟩
    by_cases hv : v = emp
    · subst hv
      unfold emp at *
      clear hor hn0
      go_enter Try.func6, Try.ntmps6
      go_wp2_with (first | (go_at_call 9; refine (lives4_any _).mono ?_; rintro e w1 ⟨rfl, hg⟩; have hT := hT.bel hg; have hX := hX.bel hg; have hb := hb.trans' hg; clear hg) | (go_at_call 20; refine (hLl.out _ hb).mono ?_; rintro e w2 ⟨rfl, hg⟩; have hT := hT.bel hg; have hX := hX.bel hg; have hb := hb.trans' hg; obtain ⟨c0, c1, c2, c3, c4, c5, c6, c7, c8, c9, c10⟩ := hX.cells; clear hg) | (go_at_call 21; refine (hLx.out _).mono ?_; rintro e w3 ⟨rfl, hg⟩; have hT := hT.bel hg; have hX := hX.bel hg; have hb := hb.trans' hg; have d0 : World.cell? _ _ = some (.bool tv) := hT.cells.1; have d1 : World.cell? _ _ = some (.string ts) := hT.cells.2; clear hg) | (go_at_call 32; refine (hMl.out _ hb).mono ?_; rintro e w4 ⟨⟨q1, k1, o1, HO1, HB1, rfl⟩, hg⟩; obtain rfl : o1 = P := HO1.out.1.trans HP.out.symm; have hT := hT.bel hg; have hX := hX.bel hg; have hb := hb.trans' hg; have d0 : World.cell? _ _ = some (.bool tv) := hT.cells.1; have d1 : World.cell? _ _ = some (.string ts) := hT.cells.2; clear hg))
      have hl1 : o1.length ≤ 100000 := Nat.le_trans HO1.out.2 (by omega)
      have hd : Bel w4 w4.drew := bel_drew' (Below.refl _ _)
      have hTd : TermAt w4.drew w.heap.size ⟨tv, ts⟩ := hT
      have hOw := Lib.hid (ownB_any q1 o1 o1.length k1 rfl w4.drew (HB1.out.bel hd) hl1)
      go_region_held3 (fun w' => w'.cell? ⟨w.heap.size, 0, none⟩ = some (.bool tv) ∧ w'.cell? ⟨w.heap.size, 1, none⟩ = some (.string ts)) (first | go_keep | trivial)
        (first | (go_at_call 24; refine hOw.out.mono ?_; rintro e w5 ⟨⟨q2, k2, HO2, rfl⟩, hg⟩; have hd := hd.trans' hg; have hTd := hTd.bel hg; have z0 : w5.cell? ⟨w.heap.size, 0, none⟩ = some (.bool tv) := hTd.cells.1; have z1 : w5.cell? ⟨w.heap.size, 1, none⟩ = some (.string ts) := hTd.cells.2; clear hg) | (go_at_call 10; refine (Bind_any q2 o1 k2 ⟨#[]⟩ ⟨tv, ts⟩ _ (OwnL.slice EB HO2.out) hl1).mono ?_; rintro e w6 ⟨⟨q3, k3, o3, n3, HE3, HO3, rfl⟩, hg⟩; obtain ⟨rfl, rfl⟩ := Prod.mk.inj (HE3.out.trans HCD.out); have hd := hd.trans' hg; have hTd := hTd.bel hg; have z0 : w6.cell? ⟨w.heap.size, 0, none⟩ = some (.bool tv) := hTd.cells.1; have z1 : w6.cell? ⟨w.heap.size, 1, none⟩ = some (.string ts) := hTd.cells.2; clear hg))
      have HB1 := Lib.hid (HB1.out.bel hd)
      have hT := hT.bel hd
      have hX := hX.bel hd
      have hb := hb.trans' hd
      clear hd hTd hOw z0 z1 d0 d1
      have hG := Lib.hid (Get_any q1 o1 o1.length k1 rfl ⟨#[]⟩ w6 HB1.out (by omega))
      rw [← HR.out] at hG
      go_wp2_with (fail)
      refine hG.out.mono ?_
      rintro e w7 ⟨⟨g7, i7, HG7, rfl⟩, hg⟩
      obtain ⟨rfl, rfl⟩ := Prod.mk.inj HG7.out
      have HB7 := Lib.hid (hg.trans' (bel_alloc w7 (.cells #[.bool g7.v, .string g7.name] 29)))
      have HB1 := Lib.hid (HB1.out.bel HB7.out)
      have HM := Lib.hid ((OwnL.slice EB HO3.out).bel HB7.out)
      have hT := hT.bel HB7.out
      have hX := hX.bel HB7.out
      have hb := hb.trans' HB7.out
      have d0 : World.cell? _ _ = some (.bool tv) := hT.cells.1
      have d1 : World.cell? _ _ = some (.string ts) := hT.cells.2
      clear hg hG HB7
      go_wp2
      go_ret
      exact ⟨rfl, hb⟩
    have hv2 := ne_emp hv
    have hv4 : v.toList.isEmpty = false := by simpa using hv2
    by_cases hs : ts = emp
    · subst hs
      unfold emp at *
      clear hor hn0 hv
      go_enter Try.func6, Try.ntmps6
      go_wp2_with (first | (go_at_call 9; refine (lives4_any _).mono ?_; rintro e w1 ⟨rfl, hg⟩; have hT := hT.bel hg; have hX := hX.bel hg; have hb := hb.trans' hg; clear hg) | (go_at_call 20; refine (hLl.out _ hb).mono ?_; rintro e w2 ⟨rfl, hg⟩; have hT := hT.bel hg; have hX := hX.bel hg; have hb := hb.trans' hg; obtain ⟨c0, c1, c2, c3, c4, c5, c6, c7, c8, c9, c10⟩ := hX.cells; clear hg) | (go_at_call 21; refine (hLx.out _).mono ?_; rintro e w3 ⟨rfl, hg⟩; have hT := hT.bel hg; have hX := hX.bel hg; have hb := hb.trans' hg; have d0 : World.cell? _ _ = some (.bool tv) := hT.cells.1; have d1 : World.cell? _ _ = some (.string ⟨#[]⟩) := hT.cells.2; clear hg) | (go_at_call 32; refine (hMl.out _ hb).mono ?_; rintro e w4 ⟨⟨q1, k1, o1, HO1, HB1, rfl⟩, hg⟩; obtain rfl : o1 = P := HO1.out.1.trans HP.out.symm; have hT := hT.bel hg; have hX := hX.bel hg; have hb := hb.trans' hg; have d0 : World.cell? _ _ = some (.bool tv) := hT.cells.1; have d1 : World.cell? _ _ = some (.string ⟨#[]⟩) := hT.cells.2; clear hg))
      have hl1 : o1.length ≤ 100000 := Nat.le_trans HO1.out.2 (by omega)
      have hd : Bel w4 w4.drew := bel_drew' (Below.refl _ _)
      have hTd : TermAt w4.drew w.heap.size ⟨tv, ⟨#[]⟩⟩ := hT
      have hOw := Lib.hid (ownB_any q1 o1 o1.length k1 rfl w4.drew (HB1.out.bel hd) hl1)
      go_region_held3 (fun w' => w'.cell? ⟨w.heap.size, 0, none⟩ = some (.bool tv) ∧ w'.cell? ⟨w.heap.size, 1, none⟩ = some (.string ⟨#[]⟩)) (first | go_keep | trivial)
        (first | (go_at_call 24; refine hOw.out.mono ?_; rintro e w5 ⟨⟨q2, k2, HO2, rfl⟩, hg⟩; have hd := hd.trans' hg; have hTd := hTd.bel hg; have z0 : w5.cell? ⟨w.heap.size, 0, none⟩ = some (.bool tv) := hTd.cells.1; have z1 : w5.cell? ⟨w.heap.size, 1, none⟩ = some (.string ⟨#[]⟩) := hTd.cells.2; clear hg) | (go_at_call 10; refine (Bind_any q2 o1 k2 v ⟨tv, ⟨#[]⟩⟩ _ (OwnL.slice EB HO2.out) hl1).mono ?_; rintro e w6 ⟨⟨q3, k3, o3, n3, HE3, HO3, rfl⟩, hg⟩; obtain ⟨rfl, rfl⟩ := Prod.mk.inj (HE3.out.trans HCD.out); have hd := hd.trans' hg; have hTd := hTd.bel hg; have z0 : w6.cell? ⟨w.heap.size, 0, none⟩ = some (.bool tv) := hTd.cells.1; have z1 : w6.cell? ⟨w.heap.size, 1, none⟩ = some (.string ⟨#[]⟩) := hTd.cells.2; clear hg))
      have HB1 := Lib.hid (HB1.out.bel hd)
      have hT := hT.bel hd
      have hX := hX.bel hd
      have hb := hb.trans' hd
      clear hd hTd hOw z0 z1 d0 d1
      have hG := Lib.hid (Get_any q1 o1 o1.length k1 rfl v w6 HB1.out (by omega))
      rw [← HR.out] at hG
      go_wp2_with (fail)
      refine hG.out.mono ?_
      rintro e w7 ⟨⟨g7, i7, HG7, rfl⟩, hg⟩
      obtain ⟨rfl, rfl⟩ := Prod.mk.inj HG7.out
      have HB7 := Lib.hid (hg.trans' (bel_alloc w7 (.cells #[.bool g7.v, .string g7.name] 29)))
      have HB1 := Lib.hid (HB1.out.bel HB7.out)
      have HM := Lib.hid ((OwnL.slice EB HO3.out).bel HB7.out)
      have hT := hT.bel HB7.out
      have hX := hX.bel HB7.out
      have hb := hb.trans' HB7.out
      have d0 : World.cell? _ _ = some (.bool tv) := hT.cells.1
      have d1 : World.cell? _ _ = some (.string ⟨#[]⟩) := hT.cells.2
      clear hg hG HB7
      go_wp2
      go_ret
      exact ⟨rfl, hb⟩
    have hs2 := ne_emp hs
    have hs4 : ts.toList.isEmpty = false := by simpa using hs2
    have HSU : RowKit.Hid (subT P ⟨tv, ts⟩ = ⟨true, v⟩) := Lib.hid (by
      rcases hor with h | h | h | h
      · cases h
      · exact absurd h hv
      · exact absurd h hs
      · exact h)
    clear hor hn0 hv hs
    have hqe : eqT ⟨true, v⟩ ⟨true, v⟩ = true := (eqT_iff _ _).2 rfl
    have hq := eql_term
    go_enter Try.func6, Try.ntmps6
    go_wp2_with (first | (go_at_call 9; refine (lives4_any _).mono ?_; rintro e w1 ⟨rfl, hg⟩; have hT := hT.bel hg; have hX := hX.bel hg; have hb := hb.trans' hg; clear hg) | (go_at_call 20; refine (hLl.out _ hb).mono ?_; rintro e w2 ⟨rfl, hg⟩; have hT := hT.bel hg; have hX := hX.bel hg; have hb := hb.trans' hg; obtain ⟨c0, c1, c2, c3, c4, c5, c6, c7, c8, c9, c10⟩ := hX.cells; clear hg) | (go_at_call 21; refine (hLx.out _).mono ?_; rintro e w3 ⟨rfl, hg⟩; have hT := hT.bel hg; have hX := hX.bel hg; have hb := hb.trans' hg; have d0 : World.cell? _ _ = some (.bool tv) := hT.cells.1; have d1 : World.cell? _ _ = some (.string ts) := hT.cells.2; clear hg) | (go_at_call 32; refine (hMl.out _ hb).mono ?_; rintro e w4 ⟨⟨q1, k1, o1, HO1, HB1, rfl⟩, hg⟩; obtain rfl : o1 = P := HO1.out.1.trans HP.out.symm; have hT := hT.bel hg; have hX := hX.bel hg; have hb := hb.trans' hg; have d0 : World.cell? _ _ = some (.bool tv) := hT.cells.1; have d1 : World.cell? _ _ = some (.string ts) := hT.cells.2; clear hg))
    have hl1 : o1.length ≤ 100000 := Nat.le_trans HO1.out.2 (by omega)
    have hd : Bel w4 w4.drew := bel_drew' (Below.refl _ _)
    have hTd : TermAt w4.drew w.heap.size ⟨tv, ts⟩ := hT
    have hOw := Lib.hid (ownB_any q1 o1 o1.length k1 rfl w4.drew (HB1.out.bel hd) hl1)
    go_region_held3 (fun w' => w'.cell? ⟨w.heap.size, 0, none⟩ = some (.bool tv) ∧ w'.cell? ⟨w.heap.size, 1, none⟩ = some (.string ts)) (first | go_keep | trivial)
      (first | (go_at_call 24; refine hOw.out.mono ?_; rintro e w5 ⟨⟨q2, k2, HO2, rfl⟩, hg⟩; have hd := hd.trans' hg; have hTd := hTd.bel hg; have z0 : w5.cell? ⟨w.heap.size, 0, none⟩ = some (.bool tv) := hTd.cells.1; have z1 : w5.cell? ⟨w.heap.size, 1, none⟩ = some (.string ts) := hTd.cells.2; clear hg) | (go_at_call 10; refine (Bind_any q2 o1 k2 v ⟨tv, ts⟩ _ (OwnL.slice EB HO2.out) hl1).mono ?_; rintro e w6 ⟨⟨q3, k3, o3, n3, HE3, HO3, rfl⟩, hg⟩; obtain ⟨rfl, rfl⟩ := Prod.mk.inj (HE3.out.trans HCD.out); have hd := hd.trans' hg; have hTd := hTd.bel hg; have z0 : w6.cell? ⟨w.heap.size, 0, none⟩ = some (.bool tv) := hTd.cells.1; have z1 : w6.cell? ⟨w.heap.size, 1, none⟩ = some (.string ts) := hTd.cells.2; clear hg))
    have HB1 := Lib.hid (HB1.out.bel hd)
    have hT := hT.bel hd
    have hX := hX.bel hd
    have hb := hb.trans' hd
    clear hd hTd hOw z0 z1 d0 d1
    have hG := Lib.hid (Get_any q1 o1 o1.length k1 rfl v w6 HB1.out (by omega))
    rw [← HR.out] at hG
    go_wp2_with (fail)
    refine hG.out.mono ?_
    rintro e w7 ⟨⟨g7, i7, HG7, rfl⟩, hg⟩
    obtain ⟨rfl, rfl⟩ := Prod.mk.inj HG7.out
    have HB7 := Lib.hid (hg.trans' (bel_alloc w7 (.cells #[.bool g7.v, .string g7.name] 29)))
    have HB1 := Lib.hid (HB1.out.bel HB7.out)
    have HM := Lib.hid ((OwnL.slice EB HO3.out).bel HB7.out)
    have hT := hT.bel HB7.out
    have hX := hX.bel HB7.out
    have hb := hb.trans' HB7.out
    have d0 : World.cell? _ _ = some (.bool tv) := hT.cells.1
    have d1 : World.cell? _ _ = some (.string ts) := hT.cells.2
    clear hg hG HB7
    have hTe := Lib.hid (Term_any q1 o1 k1 ⟨tv, ts⟩ _ HB1.out (by omega))
    rw [HSU.out] at hTe
    go_wp2_with (first | (go_at_call 17; refine hTe.out.mono ?_; rintro e w8 ⟨⟨u8, HU8, rfl⟩, hg⟩; obtain rfl := HU8.out; have hb := hb.trans' hg; clear hg) | (go_at_call 13; refine (v_any _ _).mono ?_; rintro e w9 ⟨rfl, hg⟩; have hb := hb.trans' hg; clear hg))
    go_ret
    exact ⟨rfl, hb⟩
  · have HCD := Lib.hid hcd
    obtain ⟨r, hr⟩ : ∃ r, r = getR P v := ⟨_, rfl⟩
    have hr2 : r.2 = false := by rw [hr, getR_none hgn]
    obtain ⟨r1, r2⟩ := r
    obtain rfl : r2 = false := hr2
    have HR := Lib.hid hr
    clear hr
    have HCK : RowKit.Hid (errB m = 0) := Lib.hid (errB_ok hck)
    have HML : RowKit.Hid (m.length ≤ 100001) := Lib.hid (by have h1 := made_len l; have h2 := HP.out; rw [← h2] at h1; omega)
    have hne : ((m.length : Int) != (P.length : Int) + 1) = false := by simp; omega
    have HGM : RowKit.Hid (getR m v = (subT P ⟨tv, ts⟩, true)) := Lib.hid (getR_of hgm)
    obtain ⟨g, hg0⟩ : ∃ g, g = subT P ⟨tv, ts⟩ := ⟨_, rfl⟩
    rw [← hg0] at HGM hgi hsm
    have HG0 := Lib.hid hg0
    have HGI := Lib.hid (fun i (h : i < P.length) => getR_of (hgi i h))
    obtain ⟨z, hz⟩ : ∃ z, z = applyA m x := ⟨_, rfl⟩
    obtain ⟨y1, hy⟩ : ∃ y1, y1 = applyA P x := ⟨_, rfl⟩
    have HZ1 : RowKit.Hid (applyA [⟨v, g⟩] y1 = z) := Lib.hid (by rw [hz, hy]; exact (apply_comp hsm x).symm)
    have HZN : RowKit.Hid (cntI z.n = cntI x.n) := Lib.hid (by rw [hz]; rfl)
    have HZ := Lib.hid hz
    have HY := Lib.hid hy
    clear hcd hgn hck hml hgm hgi hsm hg0 hz hy
    go_enter Try.func6, Try.ntmps6
    go_wp2_with (first | (go_at_call 9; refine (lives4_any _).mono ?_; rintro e w1 ⟨rfl, hg⟩; have hT := hT.bel hg; have hX := hX.bel hg; have hb := hb.trans' hg; clear hg) | (go_at_call 20; refine (hLl.out _ hb).mono ?_; rintro e w2 ⟨rfl, hg⟩; have hT := hT.bel hg; have hX := hX.bel hg; have hb := hb.trans' hg; obtain ⟨c0, c1, c2, c3, c4, c5, c6, c7, c8, c9, c10⟩ := hX.cells; clear hg) | (go_at_call 21; refine (hLx.out _).mono ?_; rintro e w3 ⟨rfl, hg⟩; have hT := hT.bel hg; have hX := hX.bel hg; have hb := hb.trans' hg; have d0 : World.cell? _ _ = some (.bool tv) := hT.cells.1; have d1 : World.cell? _ _ = some (.string ts) := hT.cells.2; clear hg) | (go_at_call 32; refine (hMl.out _ hb).mono ?_; rintro e w4 ⟨⟨q1, k1, o1, HO1, HB1, rfl⟩, hg⟩; obtain rfl : o1 = P := HO1.out.1.trans HP.out.symm; have hT := hT.bel hg; have hX := hX.bel hg; have hb := hb.trans' hg; have d0 : World.cell? _ _ = some (.bool tv) := hT.cells.1; have d1 : World.cell? _ _ = some (.string ts) := hT.cells.2; clear hg))
    have hl1 : o1.length ≤ 100000 := Nat.le_trans HO1.out.2 (by omega)
    have hd : Bel w4 w4.drew := bel_drew' (Below.refl _ _)
    have hTd : TermAt w4.drew w.heap.size ⟨tv, ts⟩ := hT
    have hOw := Lib.hid (ownB_any q1 o1 o1.length k1 rfl w4.drew (HB1.out.bel hd) hl1)
    go_region_held3 (fun w' => w'.cell? ⟨w.heap.size, 0, none⟩ = some (.bool tv) ∧ w'.cell? ⟨w.heap.size, 1, none⟩ = some (.string ts)) (first | go_keep | trivial)
      (first | (go_at_call 24; refine hOw.out.mono ?_; rintro e w5 ⟨⟨q2, k2, HO2, rfl⟩, hg⟩; have hd := hd.trans' hg; have hTd := hTd.bel hg; have z0 : w5.cell? ⟨w.heap.size, 0, none⟩ = some (.bool tv) := hTd.cells.1; have z1 : w5.cell? ⟨w.heap.size, 1, none⟩ = some (.string ts) := hTd.cells.2; clear hg) | (go_at_call 10; refine (Bind_any q2 o1 k2 v ⟨tv, ts⟩ _ (OwnL.slice EB HO2.out) hl1).mono ?_; rintro e w6 ⟨⟨q3, k3, o3, n3, HE3, HO3, rfl⟩, hg⟩; obtain ⟨rfl, rfl⟩ := Prod.mk.inj (HE3.out.trans HCD.out); have hd := hd.trans' hg; have hTd := hTd.bel hg; have z0 : w6.cell? ⟨w.heap.size, 0, none⟩ = some (.bool tv) := hTd.cells.1; have z1 : w6.cell? ⟨w.heap.size, 1, none⟩ = some (.string ts) := hTd.cells.2; clear hg))
    have HB1 := Lib.hid (HB1.out.bel hd)
    have hT := hT.bel hd
    have hX := hX.bel hd
    have hb := hb.trans' hd
    clear hd hTd hOw z0 z1 d0 d1
    have hG := Lib.hid (Get_any q1 o1 o1.length k1 rfl v w6 HB1.out (by omega))
    rw [← HR.out] at hG
    go_wp2_with (fail)
    refine hG.out.mono ?_
    rintro e w7 ⟨⟨g7, i7, HG7, rfl⟩, hg⟩
    obtain ⟨rfl, rfl⟩ := Prod.mk.inj HG7.out
    have HB7 := Lib.hid (hg.trans' (bel_alloc w7 (.cells #[.bool g7.v, .string g7.name] 29)))
    have HB1 := Lib.hid (HB1.out.bel HB7.out)
    have HM := Lib.hid ((OwnL.slice EB HO3.out).bel HB7.out)
    have hT := hT.bel HB7.out
    have hX := hX.bel HB7.out
    have hb := hb.trans' HB7.out
    have d0 : World.cell? _ _ = some (.bool tv) := hT.cells.1
    have d1 : World.cell? _ _ = some (.string ts) := hT.cells.2
    clear hg hG HB7
    have hCm := Lib.hid (fun W hg => Check_any q3 o3 k3 W (HM.out.bel hg) (Nat.le_trans HML.out (by omega)))
    rw [HCK.out] at hCm
    have hGm := Lib.hid (fun W hg => Get_any q3 o3 o3.length k3 rfl v W (HM.out.bel hg) (Nat.le_trans HML.out (by omega)))
    rw [HGM.out] at hGm
    go_wp2_with (first | (go_at_call 19; refine (hCm.out _ (Below.refl _ _)).mono ?_; rintro e w8 ⟨rfl, hg⟩; have HB1 := Lib.hid (HB1.out.bel hg); have HM8 := Lib.hid hg; have hT := hT.bel hg; have hX := hX.bel hg; have hb := hb.trans' hg; clear hg) | (go_at_call 15; refine (hGm.out _ HM8.out).mono ?_; rintro e w9 ⟨⟨g9, i9, HG9, rfl⟩, hg⟩; obtain ⟨rfl, rfl⟩ := Prod.mk.inj HG9.out; have hV := (TermAt.new w9 g9).bel (bel_alloc (w9.alloc (.cells #[.bool g9.v, .string g9.name] 29)) (.cells #[.string v, .bool g9.v, .string g9.name] 32)); have HB9 := Lib.hid ((hg.trans' (bel_alloc w9 (.cells #[.bool g9.v, .string g9.name] 29))).trans' (bel_alloc (w9.alloc (.cells #[.bool g9.v, .string g9.name] 29)) (.cells #[.string v, .bool g9.v, .string g9.name] 32))); clear hg))
    obtain ⟨wB, hwB⟩ : ∃ wB, wB = (w9.alloc (.cells #[.bool g9.v, .string g9.name] 29)).alloc (.cells #[.string v, .bool g9.v, .string g9.name] 32) := ⟨_, rfl⟩
    rw [← hwB]
    rw [← hwB] at hV HB9
    have HON : RowKit.Hid (BindAt wB (w9.heap.size + 1) ⟨v, g9⟩) := Lib.hid (by
      rw [hwB]
      have := BindAt.new (w9.alloc (.cells #[.bool g9.v, .string g9.name] 29)) ⟨v, g9⟩
      rwa [show (w9.alloc (.cells #[.bool g9.v, .string g9.name] 29)).heap.size = w9.heap.size + 1 by simp] at this)
    clear hwB hCm hGm
    have HVB : RowKit.Hid (TermAt wB w9.heap.size g9) := Lib.hid hV
    have HB1 := Lib.hid (HB1.out.bel HB9.out)
    have HMB := Lib.hid ((HM.out.bel HM8.out).bel HB9.out)
    have HTB : RowKit.Hid (TermAt wB w.heap.size ⟨tv, ts⟩) := Lib.hid (hT.bel HB9.out)
    have HXB : RowKit.Hid (AtomAt wB (w.heap.size + 1) x) := Lib.hid (hX.bel HB9.out)
    have HBB := Lib.hid (hb.trans' HB9.out)
    have hqe : eqT g9 g9 = true := (eqT_iff _ _).2 rfl
    have hqt := eql_term
    have hqn := neq_term
    clear hV hT hX hb d0 d1 HM HM8 HB9 hne
    go_loopw [16] (fun i wr => ∃ k : Nat, k ≤ o1.length ∧ i = .int .i64 k ∧ RowKit.Hid (Bel wB wr)) (fun i _ => o1.length - (intOf i).toNat)
    case atStart => exact ⟨0, Nat.zero_le _, rfl, Lib.hid (Below.refl _ _)⟩
    case round =>
      obtain ⟨k, hk, rfl, HW⟩ := hrel
      by_cases hlt : k < o1.length
      · obtain ⟨b, o, rfl, hbb, hc⟩ := bl_get (HB1.out.bel HW.out) (by omega)
        obtain ⟨c1, c2, c3⟩ := hc k hlt
        have hq : (0 : Int) ≤ k := by omega
        have hq2 : (k : Int) < o1.length := by omega
        have HGK := Lib.hid (HGI.out k hlt)
        clear hc hbb
        generalize o1[k] = p at c1 c2 c3 HGK
        obtain ⟨pv, pt⟩ := p
        simp only at c1 c2 c3
        obtain ⟨y, hy⟩ : ∃ y, y = subT [⟨v, g9⟩] pt := ⟨_, rfl⟩
        have hGk := Lib.hid (Get_any q3 o3 o3.length k3 rfl pv wr (HMB.out.bel HW.out) (Nat.le_trans HML.out (by omega)))
        rw [HGK.out, ← hy] at hGk
        have HYY := Lib.hid hy
        clear hy
        have hqy : eqT y y = true := (eqT_iff _ _).2 rfl
        go_wp2_with (fail)
        refine hGk.out.mono ?_
        rintro e w10 ⟨⟨y2, i2, HG2, rfl⟩, hg⟩
        obtain ⟨rfl, rfl⟩ := Prod.mk.inj HG2.out
        have hU := TermAt.new w10 y2
        have HU := Lib.hid (hg.trans' (bel_alloc w10 (.cells #[.bool y2.v, .string y2.name] 29)))
        have c1 := cell_bel c1 HU.out
        have c2 := cell_bel c2 HU.out
        have c3 := cell_bel c3 HU.out
        have HW2 := Lib.hid (HW.out.trans' HU.out)
        obtain ⟨u0, u1⟩ := hU.cells
        obtain ⟨wC, hwC⟩ : ∃ wC, wC = w10.alloc (.cells #[.bool y2.v, .string y2.name] 29) := ⟨_, rfl⟩
        rw [← hwC] at hU c1 c2 c3 HW2 u0 u1
        have HD := Lib.hid (bel_drew' (Below.refl wC.heap.size wC))
        have hTe := Lib.hid (Term_len (some ⟨w9.heap.size + 1, 0, none⟩) [⟨v, g9⟩] 1 1 rfl pt wC.drew ((HON.out.bel (HW2.out.trans' HD.out)).slice) (by simp))
        rw [← HYY.out] at hTe
        clear hg HU hGk
        go_wp2
        rw [← hwC]
        clear hwC
        go_region_held3 (fun w' => (w'.cell? ⟨w10.heap.size, 0, none⟩ = some (.bool y2.v) ∧ w'.cell? ⟨w10.heap.size, 1, none⟩ = some (.string y2.name)) ∧ (w'.cell? ⟨b, o + k * 3 + 1, none⟩ = some (.bool pt.v) ∧ w'.cell? ⟨b, o + k * 3 + 2, none⟩ = some (.string pt.name))) (first | go_keep | trivial)
          (first | (go_at_call 17; refine hTe.out.mono ?_; rintro e w11 ⟨⟨y3, HY3, rfl⟩, hg⟩; obtain rfl := HY3.out; have HW3 := Lib.hid ((HW2.out.trans' HD.out).trans' hg); have z0 : w11.cell? ⟨w10.heap.size, 0, none⟩ = some (.bool y3.v) := cell_bel u0 (HD.out.trans' hg); have z1 : w11.cell? ⟨w10.heap.size, 1, none⟩ = some (.string y3.name) := cell_bel u1 (HD.out.trans' hg); have z2 : w11.cell? ⟨b, o + k * 3 + 1, none⟩ = some (.bool pt.v) := cell_bel c2 (HD.out.trans' hg); have z3 : w11.cell? ⟨b, o + k * 3 + 2, none⟩ = some (.string pt.name) := cell_bel c3 (HD.out.trans' hg); clear hg))
        all_goals go_wp2
        all_goals go_roundw
        all_goals first
          | (case rel => exact ⟨k + 1, by omega, by go_num, HW3⟩)
          | (simp [intOf]; omega)
      · obtain rfl : k = o1.length := by omega
        have hTe := Lib.hid (fun W (hg : Bel wB W) => Term_len q1 o1 o1.length k1 rfl ⟨tv, ts⟩ W (HB1.out.bel hg) (by omega))
        rw [← HG0.out] at hTe
        have hAm := Lib.hid (fun W (hg : Bel wB W) => Apply_len q3 o3 o3.length k3 rfl x W (HMB.out.bel hg) (Nat.le_trans HML.out (by omega)))
        rw [← HZ.out] at hAm
        have hAl := Lib.hid (fun W (hg : Bel wB W) => Apply_len q1 o1 o1.length k1 rfl x W (HB1.out.bel hg) (by omega))
        rw [← HY.out] at hAl
        have hAo := Lib.hid (fun W (hg : Bel wB W) => Apply_len (some ⟨w9.heap.size + 1, 0, none⟩) [⟨v, g9⟩] 1 1 rfl y1 W ((HON.out.bel hg).slice) (by simp))
        rw [HZ1.out] at hAo
        have hCx := Lib.hid (fun W => rCount_any x.says x.pred x.n (.bool x.t0.v) (.string x.t0.name) (.bool x.t1.v) (.string x.t1.name) (.bool x.t2.v) (.string x.t2.name) (.bool x.t3.v) (.string x.t3.name) W)
        have hCz := Lib.hid (fun W => rCount_any z.says z.pred z.n (.bool z.t0.v) (.string z.t0.name) (.bool z.t1.v) (.string z.t1.name) (.bool z.t2.v) (.string z.t2.name) (.bool z.t3.v) (.string z.t3.name) W)
        rw [HZN.out] at hCz
        generalize cntI x.n = cn at hCx hCz
        have hqz : eqA z z = true := (eqA_iff _ _).2 rfl
        have hqa := eql_atom z z
        have hw := HW.out
        have hV := HVB.out.bel hw
        have hT := HTB.out.bel hw
        have hX := HXB.out.bel hw
        obtain ⟨e0, e1⟩ := hV.cells
        obtain ⟨c0, c1, c2, c3, c4, c5, c6, c7, c8, c9, c10⟩ := hX.cells
        have d0 : World.cell? _ _ = some (.bool tv) := hT.cells.1
        have d1 : World.cell? _ _ = some (.string ts) := hT.cells.2
        go_wp2
        have hd := bel_drew' (Below.refl wr.heap.size wr)
        have hw := hw.trans' hd
        have hV : TermAt wr.drew _ _ := hV
        have hT : TermAt wr.drew _ _ := hT
        have hX := hX.drew
        clear hd
        go_region_held3 (fun w' => (w'.cell? ⟨w9.heap.size, 0, none⟩ = some (.bool g9.v) ∧ w'.cell? ⟨w9.heap.size, 1, none⟩ = some (.string g9.name)) ∧ (w'.cell? ⟨w.heap.size, 0, none⟩ = some (.bool tv) ∧ w'.cell? ⟨w.heap.size, 1, none⟩ = some (.string ts)) ∧ (w'.cell? ⟨w.heap.size + 1, 0, none⟩ = some (.string x.says) ∧ w'.cell? ⟨w.heap.size + 1, 1, none⟩ = some (.string x.pred) ∧ w'.cell? ⟨w.heap.size + 1, 2, none⟩ = some (.int .i64 x.n) ∧ w'.cell? ⟨w.heap.size + 1, 3, none⟩ = some (.bool x.t0.v) ∧ w'.cell? ⟨w.heap.size + 1, 4, none⟩ = some (.string x.t0.name) ∧ w'.cell? ⟨w.heap.size + 1, 5, none⟩ = some (.bool x.t1.v) ∧ w'.cell? ⟨w.heap.size + 1, 6, none⟩ = some (.string x.t1.name) ∧ w'.cell? ⟨w.heap.size + 1, 7, none⟩ = some (.bool x.t2.v) ∧ w'.cell? ⟨w.heap.size + 1, 8, none⟩ = some (.string x.t2.name) ∧ w'.cell? ⟨w.heap.size + 1, 9, none⟩ = some (.bool x.t3.v) ∧ w'.cell? ⟨w.heap.size + 1, 10, none⟩ = some (.string x.t3.name))) (first | exact ⟨hV.cells, hT.cells, hX.cells⟩ | go_keep | trivial)
          (first | (go_at_call 17; refine (hTe.out _ hw).mono ?_; rintro e w12 ⟨⟨u1, HU1, rfl⟩, hg⟩; obtain rfl := HU1.out; have hw := hw.trans' hg; have hV := hV.bel hg; have hT := hT.bel hg; have hX := hX.bel hg; clear hg) | (go_at_call_of 29 (Value.slice q3 o3.length k3); refine (hAm.out _ hw).mono ?_; rintro e w13 ⟨⟨z2, HZ2, rfl⟩, hg⟩; obtain rfl := HZ2.out; have hw := hw.trans' hg; have hV := hV.bel hg; have hT := hT.bel hg; have hX := hX.bel hg; clear hg) | (go_at_call_of 29 (Value.slice q1 o1.length k1); refine (hAl.out _ hw).mono ?_; rintro e w14 ⟨⟨z3, HZ3, rfl⟩, hg⟩; obtain rfl := HZ3.out; have hw := hw.trans' hg; have hV := hV.bel hg; have hT := hT.bel hg; have hX := hX.bel hg; clear hg) | (go_at_call 29; refine (hAo.out _ hw).mono ?_; rintro e w15 ⟨⟨z4, HZ4, rfl⟩, hg⟩; obtain rfl := HZ4.out; have hw := hw.trans' hg; have hV := hV.bel hg; have hT := hT.bel hg; have hX := hX.bel hg; clear hg) | (go_at_call 33; (with_reducible refine (hCx.out _).mono ?_); rintro e w16 ⟨rfl, hg⟩; have hw := hw.trans' hg; have hV := hV.bel hg; have hT := hT.bel hg; have hX := hX.bel hg; clear hg) | (go_at_call 33; refine (hCz.out _).mono ?_; rintro e w16 ⟨rfl, hg⟩; have hw := hw.trans' hg; have hV := hV.bel hg; have hT := hT.bel hg; have hX := hX.bel hg; clear hg))
        all_goals go_wp2
        all_goals go_ret
        all_goals exact ⟨rfl, HBB.out.trans' hw⟩
end Go.Proofs.Ytdmdefdiglpgaaa
