/-
  The reference's canonical form, its text, whether two have the same: the walks. Conditions: as each says.
-/
import Derived.Test.YtiokjjiakcbmhaaDoorVaF
namespace Go.Proofs.YtiokjjiakcbmhaaDoor
open Go.RowKit

set_option maxHeartbeats 1000000 in
theorem rDigits_any (n : Nat) (hn : n < 4) (w : World) : Calls Tryd.prog 41 #[.int .i64 n] w fun e w' => (∃ s, RowKit.Hid (s = (⟨(Lib.decDigits n).toArray⟩ : ByteArray)) ∧ e = .returned (.string s)) ∧ Bel w w' := by
  obtain rfl | rfl | rfl | rfl : n = 0 ∨ n = 1 ∨ n = 2 ∨ n = 3 := by omega
  all_goals
    go_enter Tryd.func41, Tryd.ntmps41
    go_wp2
    go_ret
    exact ⟨⟨_, Lib.hid (by decide +kernel), rfl⟩, Below.refl _ _⟩
/-- texts that lie in a block from B on, or nowhere -/
structure RowS (w : World) (B : Nat) (v : Value) (l : List ByteArray) : Prop where
  row : w.ownsRow 0 9 1 v l.length (l.map Value.string)
  new : ∀ g, v.ownBlock = some g → B ≤ g
theorem RowS.fr {F : List Nat} {w w' : World} {B : Nat} {v : Value} {l : List ByteArray} (h : RowS w B v l) (hf : Fr F w w') (hn : ∀ k ∈ F, k < B) : RowS w' B v l :=
  ⟨hf.owns h.row (fun k hk hm => by have h1 := hn k hm; have h2 := h.new k hk; omega), h.new⟩
theorem RowS.bel {w w' : World} {B : Nat} {v : Value} {l : List ByteArray} (h : RowS w B v l) (hg : Bel w w') : RowS w' B v l := h.fr (F := []) (Fr.of_below hg) (by simp)
theorem StrO.rowS {w W : World} {v : Value} {l : List ByteArray} (h : StrO w W v l) {B : Nat} (hB : B ≤ w.heap.size) : RowS W B v l := ⟨h.row, fun g hg => Nat.le_trans hB (h.new g hg)⟩
theorem RowS.at {w : World} {B : Nat} {A : Option Addr} {n c : Nat} {l : List ByteArray} (h : RowS w B (.slice A n c) l) (h0 : 0 < l.length) : ∃ g, A = some ⟨g, 0, none⟩ ∧ B ≤ g ∧ g < w.heap.size ∧ ∀ W, Bel w W → ∀ j (hj : j < l.length), W.cell? ⟨g, j, none⟩ = some (.string l[j]) := by
  obtain ⟨g, cap, e, ho, hlt, _, _⟩ := row_value h.row h0
  injection e with e1 e2 e3
  exact ⟨g, e1, h.new g ho, hlt, fun W hg j hj => cell_bel (row_cell h.row ho (by rw [List.getElem?_map, List.getElem?_eq_getElem hj]; rfl)) hg⟩
theorem idx_front {vs : List ByteArray} {s : ByteArray} {k : Nat} (hk : k < idxN vs s) (hl : k < vs.length) : vs[k] ≠ s := fun e => by
  have := List.not_of_lt_findIdx (p := fun x => decide (x = s)) (xs := vs) hk
  simp [e] at this
set_option maxRecDepth 20000 in
set_option maxHeartbeats 4000000 in
theorem rnamesO_any (a : AtomD) (v : Bool) (w : World) (l : List TermD) (hl : l = (argsD a).take (cntI a.n)) :
    Calls Tryd.prog 39 #[.agg #[.string a.says, .string a.pred, .int .i64 a.n, .bool a.t0.v, .string a.t0.name, .bool a.t1.v, .string a.t1.name, .bool a.t2.v, .string a.t2.name, .bool a.t3.v, .string a.t3.name], .bool v] w fun e w' => (∃ A c, RowKit.Hid (StrO w w' (.slice A (namesD v l).length c) (namesD v l)) ∧ e = .returned (.slice A (namesD v l).length c)) ∧ Bel w w' := by
  obtain ⟨i0, hi, hz0, hz1, hz2⟩ := info_str
  have hA := AtomAt.new w a
  have hb := bel_alloc w (.cells #[.string a.says, .string a.pred, .int .i64 a.n, .bool a.t0.v, .string a.t0.name, .bool a.t1.v, .string a.t1.name, .bool a.t2.v, .string a.t2.name, .bool a.t3.v, .string a.t3.name] 27)
  have hcl := cntI_le a.n
  have hll : l.length = cntI a.n := by rw [hl, List.length_take]; show min _ 4 = _; omega
  have hT := hA.terms.take (cntI a.n)
  rw [← hl] at hT
  obtain ⟨k0, hk0⟩ : ∃ k0, k0 = cntI a.n := ⟨_, rfl⟩
  have HK := Lib.hid hk0
  rw [← hk0] at hcl hll
  obtain ⟨w0, hw0⟩ : ∃ w0, w0 = w.alloc (.cells #[.string a.says, .string a.pred, .int .i64 a.n, .bool a.t0.v, .string a.t0.name, .bool a.t1.v, .string a.t1.name, .bool a.t2.v, .string a.t2.name, .bool a.t3.v, .string a.t3.name] 27) := ⟨_, rfl⟩
  have HB := Lib.hid hb
  have HA := Lib.hid hA
  have HT := Lib.hid hT
  rw [← hw0] at HB HA HT
  have HW := Lib.hid hw0
  clear hl hk0 hb hA hT hw0
  have hqt := eql_term
  go_enter Tryd.func39, Tryd.ntmps39
  go_wp2
  go_loopw [5, 6] (fun a5 i wr => ∃ (k n : Nat) (q : Option Addr) (c : Nat), k ≤ k0 ∧ i = .int .i64 k ∧ a5 = .slice q n c ∧ RowKit.Hid (n = (namesD v (l.take k)).length ∧ n ≤ k ∧ StrO w0 wr (.slice q n c) (namesD v (l.take k)))) (fun _ i _ => k0 - (intOf i).toNat)
  case atStart => exact ⟨0, 0, none, 0, Nat.zero_le _, rfl, rfl, Lib.hid ⟨rfl, Nat.le_refl _, by rw [← HW.out]; exact StrO.nil _ (Below.refl _ _)⟩⟩
  case round =>
    obtain ⟨k, n, q, c, hk, rfl, rfl, H⟩ := hrel
    have hA := HA.out.bel H.out.2.2.bel
    obtain ⟨c0, c1, c2, c3, c4, c5, c6, c7, c8, c9, c10⟩ := hA.cells
    by_cases hlt : k < k0
    · have hq : (0 : Int) ≤ k := by omega
      have hq2 : (k : Int) < k0 := by omega
      have hq4 : (k : Int) < 4 := by omega
      have HN := Lib.hid (names_succ v (List.getElem?_eq_getElem (by omega : k < l.length)))
      obtain ⟨t, ht⟩ : ∃ t, t = l[k] := ⟨_, rfl⟩
      rw [← ht] at HN
      have HTK := Lib.hid ht
      clear ht
      go_wp2_with (go_at_call 38; refine (rCount_any _ _ _ _ _ _ _ _ _ _ _ _).mono ?_; rw [← HK.out]; rintro e w1 ⟨rfl, hg⟩; have HS := Lib.hid (H.out.2.2.bel' hg); clear hg c0 c1 c2 c3 c4 c5 c6 c7 c8 c9 c10 hA)
      obtain ⟨tv, ts⟩ := t
      go_loopw [7, 8] (fun th kk wr2 => ∃ j : Nat, j ≤ k ∧ kk = .int .i64 j ∧ th = .bool ((l.take j).any (fun x => eqT x ⟨tv, ts⟩)) ∧ RowKit.Hid (Bel w1 wr2)) (fun _ kk _ => k - (intOf kk).toNat)
      case atStart => exact ⟨0, Nat.zero_le _, rfl, rfl, Lib.hid (Below.refl _ _)⟩
      case round =>
        obtain ⟨j, hj, rfl, rfl, HJ⟩ := hrel
        have hS := Lib.hid (HS.out.bel' HJ.out)
        obtain ⟨b, o, e, hbb, hc⟩ := ((HT.out.bel HS.out.bel).bel HJ.out).get (by omega)
        injection e with e
        injection e with e1 e2
        subst e1 e2
        obtain ⟨d3, d4⟩ := hc k (by omega)
        rw [← HTK.out] at d3 d4
        simp only at d3 d4
        by_cases hjk : j < k
        · obtain ⟨d1, d2⟩ := hc j (by omega)
          have HY : RowKit.Hid ((l.take (j + 1)).any (fun x => eqT x ⟨tv, ts⟩) = ((l.take j).any (fun x => eqT x ⟨tv, ts⟩) || eqT l[j] ⟨tv, ts⟩)) := Lib.hid (by
            rw [List.take_add_one, List.getElem?_eq_getElem (by omega : j < l.length), List.any_append]; simp)
          clear hc hbb
          generalize l[j] = x at d1 d2 HY
          obtain ⟨xv, xs⟩ := x
          simp only at d1 d2
          have hj0 : (0 : Int) ≤ j := by omega
          have hj1 : (j : Int) < k := by omega
          have hj4 : (j : Int) < 4 := by omega
          rcases Bool.eq_false_or_eq_true ((l.take j).any (fun x => eqT x ⟨tv, ts⟩)) with hth | hth
          · have HZ : RowKit.Hid ((l.take (j + 1)).any (fun x => eqT x ⟨tv, ts⟩) = true) := Lib.hid (by rw [HY.out, hth]; rfl)
            go_wp2
            go_quiet (fail)
            go_wp2
            go_roundw
            case rel => exact ⟨j + 1, by omega, by go_num, by rw [HZ.out], Lib.hid (HJ.out.trans' (by first | exact Below.refl _ _ | exact bel_drewN _ _))⟩
            case measure => simp [intOf]; omega
          · have HZ : RowKit.Hid ((l.take (j + 1)).any (fun x => eqT x ⟨tv, ts⟩) = eqT ⟨xv, xs⟩ ⟨tv, ts⟩) := Lib.hid (by rw [HY.out, hth]; rfl)
            go_wp2
            go_quiet (fail)
            go_wp2
            go_roundw
            case rel => exact ⟨j + 1, by omega, by go_num, by rw [HZ.out], Lib.hid (HJ.out.trans' (by first | exact Below.refl _ _ | exact bel_drewN _ _))⟩
            case measure => simp [intOf]; omega
        · obtain rfl : j = k := by omega
          have HN1 := Lib.hid H.out.1
          have hnk := H.out.2.1
          clear hc hbb
          have HX := H
          clear H
          rcases Decidable.em (tv = v) with rfl | hv
          · have hv : (tv == tv) = true := by simp
            have HC := Lib.hid (contains_names tv (l.take j) ts)
            rcases Bool.eq_false_or_eq_true ((l.take j).any (fun x => eqT x ⟨tv, ts⟩)) with hth | hth
            · have HE : RowKit.Hid (namesD tv (l.take (j + 1)) = namesD tv (l.take j)) := Lib.hid (by rw [HN.out]; unfold stepN; simp [HC.out, hth])
              go_wp2
              go_roundw
              case rel => exact ⟨j + 1, n, q, c, by omega, by go_num, rfl, Lib.hid (by rw [HE.out]; exact ⟨HN1.out, by omega, hS.out⟩)⟩
              case measure => simp [intOf]; omega
            · have HE : RowKit.Hid (namesD tv (l.take (j + 1)) = namesD tv (l.take j) ++ [ts]) := Lib.hid (by rw [HN.out]; unfold stepN; simp [HC.out, hth])
              go_wp2_with (at_builtin; refine wpList_append_mine _ rfl (.tmp 43) (.tmp 49) 37 rfl 9 i0 (.string ⟨#[]⟩) 1 16 Tryd.underlying37 hi hz0 hz1 hz2 rfl (by decide) (.slice q n c) n ((namesD tv (l.take j)).map Value.string) rfl (by have := hS.out.row; rw [← HN1.out] at this; exact this.alloc _) _ 1 1 [.string ts] rfl rfl new_one str_one (by unfold maxLen; omega) (by omega) ?_; intro v2 w2 ho2 hf2 hn22; obtain ⟨g2, cap2, rfl, _, _, _, _⟩ := row_value ho2 (by omega); have HP := Lib.hid (StrO.push (p := ts) hS.out (by rw [← HN1.out]; exact ho2) hf2 hn22); clear ho2 hf2 hn22)
              go_roundw
              case rel => exact ⟨j + 1, n + 1, _, _, by omega, by go_num, rfl, Lib.hid (by rw [HE.out]; exact ⟨by rw [List.length_append, ← HN1.out]; rfl, by omega, HP.out⟩)⟩
              case measure => simp [intOf]; omega
          · have hv2 : (tv == v) = false := by simpa using hv
            clear hv
            have HE : RowKit.Hid (namesD v (l.take (j + 1)) = namesD v (l.take j)) := Lib.hid (by rw [HN.out]; unfold stepN; simp [hv2])
            go_wp2
            go_roundw
            case rel => exact ⟨j + 1, n, q, c, by omega, by go_num, rfl, Lib.hid (by rw [HE.out]; exact ⟨HN1.out, by omega, hS.out⟩)⟩
            case measure => simp [intOf]; omega
    · obtain rfl : k = k0 := by omega
      have HF : RowKit.Hid (namesD v (l.take k) = namesD v l) := Lib.hid (by rw [← hll, List.take_length])
      have HR : RowKit.Hid (n = (namesD v l).length ∧ StrO w0 wr (.slice q n c) (namesD v l)) := Lib.hid (by rw [← HF.out]; exact ⟨H.out.1, H.out.2.2⟩)
      clear H
      go_wp2_with (go_at_call 38; refine (rCount_any _ _ _ _ _ _ _ _ _ _ _ _).mono ?_; rw [← HK.out]; rintro e w1 ⟨rfl, hg⟩; have HS := Lib.hid (HR.out.2.bel' hg); clear hg)
      go_ret
      have HO := HS.out
      rw [HR.out.1] at HO
      exact ⟨⟨_, _, Lib.hid ⟨HO.row, HB.out.trans' HO.bel, fun g hg => Nat.le_trans HB.out.size (HO.new g hg)⟩, ret_slice HR.out.1⟩, HB.out.trans' HS.out.bel⟩
set_option maxHeartbeats 400000 in
theorem rvarsO_any (a : AtomD) (w : World) :
    Calls Tryd.prog 19 #[.agg #[.string a.says, .string a.pred, .int .i64 a.n, .bool a.t0.v, .string a.t0.name, .bool a.t1.v, .string a.t1.name, .bool a.t2.v, .string a.t2.name, .bool a.t3.v, .string a.t3.name]] w fun e w' => (∃ A c, RowKit.Hid (StrO w w' (.slice A (varsA a).length c) (varsA a)) ∧ e = .returned (.slice A (varsA a).length c)) ∧ Bel w w' := by
  have hA := AtomAt.new w a
  have hb := bel_alloc w (.cells #[.string a.says, .string a.pred, .int .i64 a.n, .bool a.t0.v, .string a.t0.name, .bool a.t1.v, .string a.t1.name, .bool a.t2.v, .string a.t2.name, .bool a.t3.v, .string a.t3.name] 27)
  obtain ⟨l, hl⟩ : ∃ l, l = (argsD a).take (cntI a.n) := ⟨_, rfl⟩
  have HL := Lib.hid hl
  rw [show varsA a = namesD true l by rw [hl]; rfl]
  clear hl
  go_enter Tryd.func19, Tryd.ntmps19
  go_wp2_with (go_at_call 39; refine (rnamesO_any a true _ l HL.out).mono ?_; rintro e w1 ⟨⟨A, c, hL, rfl⟩, hg⟩; have hb2 := hb.trans' hg)
  go_ret
  exact ⟨⟨_, _, Lib.hid ⟨hL.out.row, hb2, fun g hg => Nat.le_trans hb.size (hL.out.new g hg)⟩, rfl⟩, hb2⟩
set_option maxRecDepth 20000 in
set_option maxHeartbeats 8000000 in
theorem rCanon_any (a : AtomD) (w : World) (hs : ∀ t ∈ argsD a, t.name.size ≤ 1000) :
    Calls Tryd.prog 25 #[.agg #[.string a.says, .string a.pred, .int .i64 a.n, .bool a.t0.v, .string a.t0.name, .bool a.t1.v, .string a.t1.name, .bool a.t2.v, .string a.t2.name, .bool a.t3.v, .string a.t3.name]] w fun e w' => (∃ q, RowKit.Hid (q = canonD a) ∧ e = .returned (.agg #[.string q.says, .string q.pred, .int .i64 q.n, .bool q.t0.v, .string q.t0.name, .bool q.t1.v, .string q.t1.name, .bool q.t2.v, .string q.t2.name, .bool q.t3.v, .string q.t3.name])) ∧ Bel w w' := by
  have HS := Lib.hid hs
  clear hs
  have hb := bel_alloc w (.cells #[.string a.says, .string a.pred, .int .i64 a.n, .bool a.t0.v, .string a.t0.name, .bool a.t1.v, .string a.t1.name, .bool a.t2.v, .string a.t2.name, .bool a.t3.v, .string a.t3.name] 27)
  have hA := AtomAt.new w a
  have hb2 := bel_alloc (w.alloc (.cells #[.string a.says, .string a.pred, .int .i64 a.n, .bool a.t0.v, .string a.t0.name, .bool a.t1.v, .string a.t1.name, .bool a.t2.v, .string a.t2.name, .bool a.t3.v, .string a.t3.name] 27)) (.cells #[.string zeroA.says, .string zeroA.pred, .int .i64 zeroA.n, .bool zeroA.t0.v, .string zeroA.t0.name, .bool zeroA.t1.v, .string zeroA.t1.name, .bool zeroA.t2.v, .string zeroA.t2.name, .bool zeroA.t3.v, .string zeroA.t3.name] 27)
  have hZ := AtomAt.new (w.alloc (.cells #[.string a.says, .string a.pred, .int .i64 a.n, .bool a.t0.v, .string a.t0.name, .bool a.t1.v, .string a.t1.name, .bool a.t2.v, .string a.t2.name, .bool a.t3.v, .string a.t3.name] 27)) zeroA
  rw [show (w.alloc (.cells #[.string a.says, .string a.pred, .int .i64 a.n, .bool a.t0.v, .string a.t0.name, .bool a.t1.v, .string a.t1.name, .bool a.t2.v, .string a.t2.name, .bool a.t3.v, .string a.t3.name] 27)).heap.size = w.heap.size + 1 by simp] at hZ
  replace hA := hA.bel hb2
  replace hb := hb.trans' hb2
  simp only [zeroA, zeroT] at hb hA hZ
  clear hb2
  have hc4 := cntI_le a.n
  obtain ⟨c, hcc⟩ : ∃ c, c = cntI a.n := ⟨_, rfl⟩
  rw [← hcc] at hc4
  have HC := Lib.hid hcc
  clear hcc
  obtain ⟨vs, hvs⟩ : ∃ vs, vs = varsA a := ⟨_, rfl⟩
  have hv4 : vs.length ≤ 4 := by rw [hvs]; exact vars4 a
  have HV := Lib.hid hvs
  clear hvs
  obtain ⟨c0, c1, c2, c3, c4, c5, c6, c7, c8, c9, c10⟩ := hA.cells
  go_enter Tryd.func25, Tryd.ntmps25
  go_wp2_with (fail)
  refine (rvarsO_any a _).mono ?_
  rintro e w2 ⟨⟨qv, cv, HLV0, rfl⟩, hg⟩
  rw [← HV.out] at HLV0 ⊢
  have HLV := Lib.hid (HLV0.out.rowS (B := w.heap.size + 2) (by simp))
  clear HLV0
  clear c0 c1 c2 c3 c4 c5 c6 c7 c8 c9 c10
  have HA0 := Lib.hid (hA.bel hg)
  have HZ0 := Lib.hid (AtomAt.bel (a := zeroA) hZ hg)
  have HB0 := Lib.hid (hb.trans' hg)
  clear hA hZ hb hg
  go_wp2
  go_loopw [4] (fun i0 wr => ∃ i : Nat, i ≤ c ∧ i0 = .int .i64 i ∧ RowKit.Hid (Bel w wr ∧ AtomAt wr w.heap.size (mapK (canT vs) a i) ∧ AtomAt wr (w.heap.size + 1) zeroA ∧ RowS wr (w.heap.size + 2) (.slice qv vs.length cv) vs)) (fun i0 _ => c - (intOf i0).toNat)
  case atStart => exact ⟨0, Nat.zero_le _, rfl, Lib.hid ⟨HB0.out, HA0.out, HZ0.out, HLV.out⟩⟩
  case round =>
    obtain ⟨i, hi, rfl, H⟩ := hrel
    clear HB0 HA0 HZ0
    have hA := H.out.2.1
    have hb := H.out.1
    have hZ := H.out.2.2.1
    have HL := Lib.hid H.out.2.2.2
    clear H HLV
    obtain ⟨c0, c1, c2, c3, c4, c5, c6, c7, c8, c9, c10⟩ := hA.cells
    have HCN : RowKit.Hid (cntI (mapK (canT vs) a i).n = c) := Lib.hid HC.out.symm
    by_cases hlt : i < c
    · have hi4 : i < 4 := by omega
      have hq : (0 : Int) ≤ i := by omega
      have hq1 : (i : Int) < 4 := by omega
      have hq2 : (i : Int) < c := by omega
      obtain ⟨t, ht⟩ := args_some a i hi4
      have ht2 := mapK_arg (canT vs) a i hi4 t ht
      have HT := Lib.hid ht
      have HT2 := Lib.hid ht2
      have hts : t.name.size ≤ 1000 := HS.out t (List.mem_of_getElem? ht)
      have HTN : RowKit.Hid (t ∈ argsN a) := Lib.hid (argsN_mem (by rw [← HC.out]; exact hlt) ht)
      clear ht ht2
      cases hv : t.v
      · have HN := Lib.hid (setK_cst (f := canT vs) a i hi4 t HT.out (renF_cst _ t hv))
        have HBT := Lib.hid hv
        clear hv
        go_wp2_with (go_at_call 38; refine (rCount_any _ _ _ _ _ _ _ _ _ _ _ _).mono ?_; rw [HCN.out]; rintro e w3 ⟨rfl, hg⟩; have hA3 := hA.bel hg; have hZ3 := hZ.bel hg; have hb3 := hb.trans' hg; have HL3 := Lib.hid (HL.out.bel hg); clear hA hb hZ hg c0 c1 c2 c3 c4 c5 c6 c7 c8 c9 c10)
        obtain ⟨c1, c2⟩ := terms_at hA3 HT2.out
        rw [HBT.out] at c1
        go_loopw [5] (fun k0 wq => k0 = .int .i64 0 ∧ wq = w3) (fun _ _ => 0)
        case atStart => exact ⟨rfl, rfl⟩
        case round =>
          obtain ⟨rfl, rfl⟩ := hrel
          by_cases h0 : (0 : Int) < vs.length
          · go_wp2
            go_roundw
            case rel => exact ⟨i + 1, by omega, by go_num, Lib.hid ⟨hb3, by rw [← HN.out]; exact hA3, hZ3, HL3.out⟩⟩
            case measure => simp [intOf]; omega
          · go_wp2
            go_roundw
            case rel => exact ⟨i + 1, by omega, by go_num, Lib.hid ⟨hb3, by rw [← HN.out]; exact hA3, hZ3, HL3.out⟩⟩
            case measure => simp [intOf]; omega
      · have hmem : t.name ∈ vs := by rw [HV.out]; exact vars_mem HTN.out hv
        obtain ⟨hjl, hje⟩ := idxN_hit hmem
        obtain ⟨j, hj⟩ : ∃ j, j = idxN vs t.name := ⟨_, rfl⟩
        have HFR := Lib.hid (fun k (hk : k < j) (hl : k < vs.length) => idx_front (vs := vs) (s := t.name) (by rw [← hj]; exact hk) hl)
        have HNX := Lib.hid (fun s (hs : s = vName j) => setK_var (f := canT vs) a i hi4 t s HT.out (by rw [hs, hv, hj]; exact renF_var _ t hv))
        have HJE : RowKit.Hid (∀ (h : j < vs.length), vs[j] = t.name) := Lib.hid (fun h => by simp only [hj]; exact hje)
        have hjv : j < vs.length := by rw [hj]; exact hjl
        have HBT := Lib.hid hv
        clear hv hmem hjl hje hj
        go_wp2_with (go_at_call 38; refine (rCount_any _ _ _ _ _ _ _ _ _ _ _ _).mono ?_; rw [HCN.out]; rintro e w3 ⟨rfl, hg⟩; have hA3 := hA.bel hg; have hZ3 := hZ.bel hg; have hb3 := hb.trans' hg; have HL3 := Lib.hid (HL.out.bel hg); clear hA hb hZ hg c0 c1 c2 c3 c4 c5 c6 c7 c8 c9 c10)
        obtain ⟨b, rfl, hbB, hbb, hcv⟩ := HL3.out.at (by omega)
        have HCV := Lib.hid hcv
        have HA3 := Lib.hid hA3
        have HZ3 := Lib.hid hZ3
        have HB3 := Lib.hid hb3
        clear hcv hbb hA3 hZ3 hb3
        go_loopw [5] (fun k0 wq => ∃ k : Nat, k ≤ j ∧ k0 = .int .i64 k ∧ RowKit.Hid (Bel w3 wq)) (fun k0 _ => j + 1 - (intOf k0).toNat)
        case atStart => exact ⟨0, Nat.zero_le _, rfl, Lib.hid (Below.refl _ _)⟩
        case round =>
          obtain ⟨k, hk, rfl, HQ⟩ := hrel
          have hA := HA3.out.bel HQ.out
          obtain ⟨c1, c2⟩ := terms_at hA HT2.out
          rw [HBT.out] at c1
          have hkl : k < vs.length := by omega
          have cv := HCV.out _ HQ.out k hkl
          have hp : (0 : Int) ≤ k := by omega
          have hp2 : (k : Int) < vs.length := by omega
          by_cases hkj : k = j
          · subst hkj
            rw [HJE.out hkl] at cv
            have hse : (t.name.toList == t.name.toList) = true := by simp
            have hb := Lib.hid (HB3.out.trans' HQ.out)
            have hZ := Lib.hid (HZ3.out.bel HQ.out)
            have hLL := Lib.hid (HL3.out.bel HQ.out)
            have hAA := Lib.hid hA
            go_wp2
            go_quiet (fail)
            clear hse
            go_wp2_with (first | (go_at_call 41; refine (rDigits_any k (by omega) _).mono ?_; rintro e w4 ⟨⟨s, HSS, rfl⟩, hg0⟩; have hg := (bel_drewN _ _).trans' hg0; have hsl : s.size ≤ 2 := (by rw [HSS.out, Lib.decDigits_one (by omega)]; exact (by decide : 1 ≤ 2)); have hA4 := hAA.out.bel hg; have hZ4 := hZ.out.bel hg; have hb4 := hb.out.trans' hg; have hL4 := hLL.out.bel hg; clear hg hg0) | ((with_reducible refine wpList_store_s ?_ (.tmp 43) (.tmp 40) ?_ w.heap.size i (⟨#[86]⟩ ++ s) ?_ ?_ hA4 hi4 ?_); rfl; rfl; rfl; rfl; intro w5 hA5 hb5 ho5))
            go_roundw
            case rel =>
              refine ⟨i + 1, by omega, by go_num, Lib.hid ⟨hb4.trans hb5, ?_, (ho5 _ (by omega)).trans hZ4, ?_⟩⟩
              · rw [← HNX.out (⟨#[86]⟩ ++ s) (by rw [HSS.out]; rfl)]; exact hA5
              · exact hL4.fr (F := [w.heap.size]) ⟨hb5.os, hb5.tape, hb5.output, hb5.size, fun i hi hn => ho5 i (by simpa using hn)⟩ (by intro q hq; have := List.mem_singleton.1 hq; omega)
            case measure => simp [intOf]; omega
          · have hne := HFR.out k (by omega) hkl
            have hse : (vs[k].toList == t.name.toList) = false := by
              rw [Bool.eq_false_iff]
              intro h
              exact hne (ba_ext (eq_of_beq h))
            clear hne
            generalize vs[k] = s at cv hse
            go_wp2
            go_quiet (fail)
            go_wp2
            go_roundw
            case rel => exact ⟨k + 1, by omega, by go_num, Lib.hid (HQ.out.trans' (by first | exact Below.refl _ _ | exact bel_drewN _ _))⟩
            case measure => simp [intOf]; omega
    · obtain rfl : i = c := by omega
      have hq2 : ¬ (i : Int) < i := by omega
      have HQ : RowKit.Hid (mapK (canT vs) a i = canonD a) := Lib.hid (by rw [HC.out, HV.out]; rfl)
      obtain ⟨q, hq⟩ : ∃ q, q = mapK (canT vs) a i := ⟨_, rfl⟩
      rw [← hq] at hA HCN c0 c1 c2 c3 c4 c5 c6 c7 c8 c9 c10
      have HQ2 := Lib.hid (hq.trans HQ.out)
      clear hq HQ
      go_wp2_with (first | (go_at_call 38; refine (rCount_any _ _ _ _ _ _ _ _ _ _ _ _).mono ?_; rw [HCN.out]; rintro e w3 ⟨rfl, hg⟩; replace hA := hA.bel hg; replace hZ := hZ.bel hg; replace hb := hb.trans' hg; clear hg c0 c1 c2 c3 c4 c5 c6 c7 c8 c9 c10; obtain ⟨c0, c1, c2, c3, c4, c5, c6, c7, c8, c9, c10⟩ := hA.cells) | ((with_reducible refine wpList_store_atom ?_ (.tmp 2) (.tmp 44) ?_ (w.heap.size + 1) q ?_ ?_ hZ ?_); rfl; rfl; rfl; rfl; intro w4 hR hb4 _; replace hb := hb.trans (hb4.mono (Nat.le_succ _)); clear hb4))
      try simp only [Exit.inBlock, Exit.then]
      refine bodyPost_ret (results_atom rfl _ _ _ _ rfl hR) rfl ?_
      exact ⟨⟨_, HQ2, rfl⟩, hb⟩
end Go.Proofs.YtiokjjiakcbmhaaDoor
