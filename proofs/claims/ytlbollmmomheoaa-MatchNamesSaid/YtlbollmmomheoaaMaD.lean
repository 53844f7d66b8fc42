/-
  Under: the walk. An array of terms by value at an index. Conditions: as each says.
-/
import Derived.Test.YtlbollmmomheoaaMaB
import Derived.Test.YtlbollmmomheoaaMaC
import Derived.Deep.DeepCutAuto
import Derived.WalkMore
namespace Go.Proofs.Ytlbollmmomheoaa
open Go.RowKit

theorem run_index_terms (t0 t1 t2 t3 : TermD) (k : Nat) (t : TermD) (ht : [t0, t1, t2, t3][k]? = some t) (w : World) :
    (Instr.index 41 (.agg #[.bool t0.v, .string t0.name, .bool t1.v, .string t1.name, .bool t2.v, .string t2.name, .bool t3.v, .string t3.name]) (.int .i64 k)).run Try.prog w = .ok (.agg #[.bool t.v, .string t.name]) w := by
  have h0 : ∀ (c0 c1 c2 c3 c4 c5 c6 c7 : Value) (w : World), (Instr.index 41 (.agg #[c0, c1, c2, c3, c4, c5, c6, c7]) (.int .i64 0)).run Try.prog w = .ok (.agg #[c0, c1]) w := fun _ _ _ _ _ _ _ _ _ => by kernel_rfl
  have h1 : ∀ (c0 c1 c2 c3 c4 c5 c6 c7 : Value) (w : World), (Instr.index 41 (.agg #[c0, c1, c2, c3, c4, c5, c6, c7]) (.int .i64 1)).run Try.prog w = .ok (.agg #[c2, c3]) w := fun _ _ _ _ _ _ _ _ _ => by kernel_rfl
  have h2 : ∀ (c0 c1 c2 c3 c4 c5 c6 c7 : Value) (w : World), (Instr.index 41 (.agg #[c0, c1, c2, c3, c4, c5, c6, c7]) (.int .i64 2)).run Try.prog w = .ok (.agg #[c4, c5]) w := fun _ _ _ _ _ _ _ _ _ => by kernel_rfl
  have h3 : ∀ (c0 c1 c2 c3 c4 c5 c6 c7 : Value) (w : World), (Instr.index 41 (.agg #[c0, c1, c2, c3, c4, c5, c6, c7]) (.int .i64 3)).run Try.prog w = .ok (.agg #[c6, c7]) w := fun _ _ _ _ _ _ _ _ _ => by kernel_rfl
  match k, ht with
  | 0, ht => simp at ht; subst ht; exact h0 _ _ _ _ _ _ _ _ w
  | 1, ht => simp at ht; subst ht; exact h1 _ _ _ _ _ _ _ _ w
  | 2, ht => simp at ht; subst ht; exact h2 _ _ _ _ _ _ _ _ w
  | 3, ht => simp at ht; subst ht; exact h3 _ _ _ _ _ _ _ _ w
  | k + 4, ht => simp at ht
theorem under_no {a p : AtomD} (h : alikeD a p = false) : underD a p = false := by unfold underD; rw [h]; rfl
theorem under_yes {a p : AtomD} (h : alikeD a p = true) (k : (List.range (cntI a.n)).all (fitB p a) = true) : underD a p = true := by unfold underD; rw [h, k]; rfl
theorem under_not {a p : AtomD} {i : Nat} (hi : i < cntI a.n) (h : fitB p a i = false) : underD a p = false := by
  unfold underD
  rw [Bool.and_eq_false_iff]
  refine .inr ?_
  rw [List.all_eq_false]
  exact ⟨i, List.mem_range.2 hi, by rw [h]; decide⟩
theorem range_succ {f : Nat → Bool} {k : Nat} (h : (List.range k).all f = true) (h2 : f k = true) : (List.range (k + 1)).all f = true := by
  rw [List.range_succ, List.all_append, h]; simp [h2]
theorem fit_const {p a : AtomD} {k : Nat} {t u : TermD} (ht : (argsD p)[k]? = some t) (hu : (argsD a)[k]? = some u) (hv : t.v = false) : fitB p a k = eqT t u := by
  unfold fitB wantN
  simp only [List.getD_eq_getElem?_getD, ht, hu, Option.getD_some]
  rw [hv]; rfl
theorem fit_var {p a : AtomD} {k : Nat} {t u x : TermD} (ht : (argsD p)[k]? = some t) (hu : (argsD a)[k]? = some u) (hx : (argsD a)[idxT (argsD p) t]? = some x) (hv : t.v = true) : fitB p a k = eqT x u := by
  unfold fitB wantN
  simp only [List.getD_eq_getElem?_getD, ht, hu, Option.getD_some]
  rw [hv, if_pos rfl, hx]
  rfl
theorem args_get (a : AtomD) (k : Nat) (hk : k < 4) : ∃ t, (argsD a)[k]? = some t := ⟨(argsD a)[k]'hk, List.getElem?_eq_getElem (h := hk)⟩
theorem TermAt.frozen {w : World} {b : Nat} {t : TermD} (h : TermAt w b t) (i : Nat) : w.frozen? ⟨b, i, none⟩ = false := by
  unfold TermAt at h
  simp [World.frozen?, h]
theorem set_term {w w' : World} {b : Nat} {t0 : TermD} (h : TermAt w b t0) (x : TermD) (hw : w' = (w.setCell ⟨b, 0, none⟩ (.bool x.v)).setCell ⟨b, 1, none⟩ (.string x.name)) : TermAt w' b x ∧ Below b w w' ∧ ∀ k, k ≠ b → w'.heap[k]? = w.heap[k]? := by
  subst hw
  have ho : ∀ k, k ≠ b → ((w.setCell ⟨b, 0, none⟩ (.bool x.v)).setCell ⟨b, 1, none⟩ (.string x.name)).heap[k]? = w.heap[k]? := fun k hk => by
    simp [World.setCell, Array.getElem?_modify, Ne.symm hk]
  refine ⟨?_, ⟨rfl, rfl, rfl, by simp, fun k hk => ho k (by omega)⟩, ho⟩
  unfold TermAt at h ⊢
  simp [World.setCell, Array.getElem?_modify, h]
theorem terms_at {w : World} {b : Nat} {a : AtomD} (h : AtomAt w b a) {k : Nat} {t : TermD} (hk : (argsD a)[k]? = some t) : w.cell? ⟨b, 3 + k * 2, none⟩ = some (.bool t.v) ∧ w.cell? ⟨b, 3 + k * 2 + 1, none⟩ = some (.string t.name) := by
  obtain ⟨hq, rfl⟩ := List.getElem?_eq_some_iff.1 hk
  obtain ⟨b', o', e, _, c1, c2⟩ := h.terms k hq
  injection e with e
  injection e with e1 e2
  subst e1 e2
  exact ⟨c1, c2⟩

set_option maxRecDepth 20000 in
set_option maxHeartbeats 8000000 in
theorem Under_any (a p : AtomD) (w : World) :
    Calls Try.prog 35 #[.agg #[.string a.says, .string a.pred, .int .i64 a.n, .bool a.t0.v, .string a.t0.name, .bool a.t1.v, .string a.t1.name, .bool a.t2.v, .string a.t2.name, .bool a.t3.v, .string a.t3.name], .agg #[.string p.says, .string p.pred, .int .i64 p.n, .bool p.t0.v, .string p.t0.name, .bool p.t1.v, .string p.t1.name, .bool p.t2.v, .string p.t2.name, .bool p.t3.v, .string p.t3.name]] w fun e w' => e = .returned (.bool (underD a p)) ∧ Bel w w' := by
  have hA := AtomAt.new w a
  have hP := AtomAt.new (w.alloc (.cells #[.string a.says, .string a.pred, .int .i64 a.n, .bool a.t0.v, .string a.t0.name, .bool a.t1.v, .string a.t1.name, .bool a.t2.v, .string a.t2.name, .bool a.t3.v, .string a.t3.name] 43)) p
  rw [show (w.alloc (.cells #[.string a.says, .string a.pred, .int .i64 a.n, .bool a.t0.v, .string a.t0.name, .bool a.t1.v, .string a.t1.name, .bool a.t2.v, .string a.t2.name, .bool a.t3.v, .string a.t3.name] 43)).heap.size = w.heap.size + 1 by simp] at hP
  have g2 := bel_alloc (w.alloc (.cells #[.string a.says, .string a.pred, .int .i64 a.n, .bool a.t0.v, .string a.t0.name, .bool a.t1.v, .string a.t1.name, .bool a.t2.v, .string a.t2.name, .bool a.t3.v, .string a.t3.name] 43)) (.cells #[.string p.says, .string p.pred, .int .i64 p.n, .bool p.t0.v, .string p.t0.name, .bool p.t1.v, .string p.t1.name, .bool p.t2.v, .string p.t2.name, .bool p.t3.v, .string p.t3.name] 43)
  have hA := hA.bel g2
  have hb := (bel_alloc w (.cells #[.string a.says, .string a.pred, .int .i64 a.n, .bool a.t0.v, .string a.t0.name, .bool a.t1.v, .string a.t1.name, .bool a.t2.v, .string a.t2.name, .bool a.t3.v, .string a.t3.name] 43)).trans' g2
  have hAl := Lib.hid (fun W => alike_any a p W)
  clear g2
  cases hal : alikeD a p
  · rw [hal] at hAl
    have HE := Lib.hid (under_no hal)
    clear hal
    go_enter Try.func35, Try.ntmps35
    go_wp2
    go_step3
    go_wp2_with (go_at_call 65; refine (hAl.out _).mono ?_; rintro e w1 ⟨rfl, hg⟩; have hb := hb.trans' hg; clear hg)
    try rw [Exit.noGoto_ret]
    go_ret
    exact ⟨ret_bool HE.out.symm, hb⟩
  rw [hal] at hAl
  have HAL := Lib.hid hal
  obtain ⟨hx1, hx2, hpn, hn0, hn4⟩ := alike_iff.1 hal
  obtain ⟨N, hN⟩ : ∃ N, N = cntI a.n := ⟨_, rfl⟩
  have hNn : (N : Int) = a.n := by rw [hN]; unfold cntI; omega
  have HN := Lib.hid hN
  have hN4 : N ≤ 4 := by omega
  have HNP : RowKit.Hid (p.n = (N : Int)) := Lib.hid (by omega)
  clear hx1 hx2 hal hpn hn0 hn4 hNn hN
  go_enter Try.func35, Try.ntmps35
  go_wp2
  go_step3
  go_wp2_with (go_at_call 65; refine (hAl.out _).mono ?_; rintro e w1 ⟨rfl, hg⟩; have hA := hA.bel hg; have hP := hP.bel hg; have hb := hb.trans' hg; obtain ⟨p0, p1, p2, p3, p4, p5, p6, p7, p8, p9, p10⟩ := hP.cells; clear hg)
  go_step3
  go_wp2
  have HA := Lib.hid hA
  have HP := Lib.hid hP
  have HB := Lib.hid hb
  clear hA hP hb p0 p1 p2 p3 p4 p5 p6 p7 p8 p9 p10
  go_loopw [14] (fun i wr => ∃ k : Nat, k ≤ N ∧ i = .int .i64 k ∧ RowKit.Hid (Bel w1 wr) ∧ RowKit.Hid ((List.range k).all (fitB p a) = true)) (fun i _ => 4 - (intOf i).toNat)
  case atStart => exact ⟨0, Nat.zero_le _, rfl, Lib.hid (Below.refl _ _), Lib.hid rfl⟩
  case round =>
    obtain ⟨k, hk, rfl, HW, HU⟩ := hrel
    have hA := HA.out.bel HW.out
    have hP := HP.out.bel HW.out
    have hb := HB.out.trans' HW.out
    by_cases hk4 : k < 4
    · have hk4i : (k : Int) < 4 := by omega
      have hk0 : (0 : Int) ≤ k := by omega
      obtain ⟨t, ht⟩ := args_get p k hk4
      obtain ⟨v, hv⟩ := args_get a k hk4
      obtain ⟨v1, v2⟩ := terms_at hA hv
      have hix := fun W => run_index_terms p.t0 p.t1 p.t2 p.t3 k t ht W
      obtain ⟨_, _, pn, _⟩ := hP.cells
      rw [HNP.out] at pn
      have hlt8 := hP.lt
      have hn0 : wr.heap.size ≠ w.heap.size := by omega
      have hn1 : wr.heap.size ≠ w.heap.size + 1 := by omega
      have hn2 : w.heap.size ≠ wr.heap.size := by omega
      have hn3 : w.heap.size + 1 ≠ wr.heap.size := by omega
      have hn4 : w.heap.size ≠ wr.heap.size + 1 := by omega
      have hn5 : wr.heap.size + 1 ≠ w.heap.size := by omega
      have hl0 : w.heap.size < wr.heap.size := by omega
      have hl1 : w.heap.size ≤ wr.heap.size := by omega
      have hl2 : w.heap.size < wr.heap.size + 1 := by omega
      obtain ⟨tv, ts⟩ := t
      obtain ⟨vv, vs⟩ := v
      simp only at v1 v2 hix
      have HTV := Lib.hid (And.intro ht hv)
      have HBA := Lib.hid ((hb.trans' (bel_alloc wr (.cells #[.bool tv, .string ts] 29))).trans' (bel_alloc _ (.cells #[.bool tv, .string ts] 29)))
      have HWA := Lib.hid ((HW.out.trans' (bel_alloc wr (.cells #[.bool tv, .string ts] 29))).trans' (bel_alloc _ (.cells #[.bool tv, .string ts] 29)))
      cases tv
      · clear ht hv hA hP hb
        by_cases hkN : k = N
        · have HF := Lib.hid (under_yes HAL.out (by rw [← HN.out, ← hkN]; exact HU.out))
          have hkn : ((k : Int) == (N : Int)) = true := by rw [hkN]; simp
          clear hkN
          go_wp2
          try rw [Exit.noGoto_ret]
          go_ret
          exact ⟨ret_bool HF.out.symm, HBA.out⟩
        · have hlt : k < N := by omega
          have hkn : ((k : Int) == (N : Int)) = false := by rw [beq_eq_false_iff_ne]; omega
          have hq := neq_term false vv ts vs
          cases hf : eqT ⟨false, ts⟩ ⟨vv, vs⟩ <;> rw [hf] at hq
          · have HE := Lib.hid (under_not (by rw [← HN.out]; exact hlt) ((fit_const HTV.out.1 HTV.out.2 rfl).trans hf))
            clear hf hkN hlt
            go_wp2
            go_quiet (fail)
            go_wp2
            try rw [Exit.noGoto_ret]
            go_ret
            exact ⟨ret_bool HE.out.symm, HBA.out.trans' (by first | exact Below.refl _ _ | exact bel_drewN _ _)⟩
          · have HS := Lib.hid (range_succ HU.out ((fit_const HTV.out.1 HTV.out.2 rfl).trans hf))
            clear hf hkN
            go_wp2
            go_quiet (fail)
            go_wp2
            go_roundw
            case rel => exact ⟨k + 1, by omega, by go_num, Lib.hid (HWA.out.trans' (by first | exact Below.refl _ _ | exact bel_drewN _ _)), HS⟩
            case measure => simp [intOf]; omega
      · obtain ⟨j, hj⟩ : ∃ j, j = idxT (argsD p) ⟨true, ts⟩ := ⟨_, rfl⟩
        have hj4 : idxT (argsD p) ⟨true, ts⟩ < (argsD p).length := by
          obtain ⟨h1, h2⟩ := List.getElem?_eq_some_iff.1 ht
          obtain ⟨g1, _, _⟩ := idx_hit h1
          rw [h2] at g1
          exact g1
        have hj44 : j < 4 := by rw [hj]; exact hj4
        obtain ⟨x, hx⟩ := args_get a j hj44
        have hIx := Lib.hid (fun W (hT : TermsAt W (some ⟨w.heap.size + 1, 3, none⟩) (argsD p)) => index_any _ (argsD p) 4 4 rfl ⟨true, ts⟩ hj4 W hT (by show 4 ≤ 1000; omega))
        rw [← hj] at hIx
        have hj0 : (0 : Int) ≤ j := by omega
        have hj1 : (j : Int) < 4 := by omega
        have HFX := Lib.hid (fit_var HTV.out.1 HTV.out.2 (by rw [← hj]; exact hx) rfl)
        have g2 := (bel_alloc wr (.cells #[.bool true, .string ts] 29)).trans' (bel_alloc _ (.cells #[.bool true, .string ts] 29))
        obtain ⟨wB, hwB⟩ : ∃ wB, wB = (wr.alloc (.cells #[.bool true, .string ts] 29)).alloc (.cells #[.bool true, .string ts] 29) := ⟨_, rfl⟩
        have hT6 := (TermAt.new wr ⟨true, ts⟩).bel (bel_alloc _ (.cells #[.bool true, .string ts] 29))
        have hT7 := TermAt.new (wr.alloc (.cells #[.bool true, .string ts] 29)) ⟨true, ts⟩
        rw [show (wr.alloc (.cells #[.bool true, .string ts] 29)).heap.size = wr.heap.size + 1 by simp] at hT7
        rw [← hwB] at g2 HBA HWA
        simp only at hT6 hT7
        rw [← hwB] at hT6 hT7
        have HAB := Lib.hid (hA.bel g2)
        have HPB := Lib.hid (hP.bel g2)
        obtain ⟨x1, x2⟩ := terms_at HAB.out hx
        obtain ⟨y1, y2⟩ := hT6.cells
        obtain ⟨z1, z2⟩ := hT7.cells
        simp only at y1 y2 z1 z2
        obtain ⟨xv, xs⟩ := x
        simp only at x1 x2
        go_wp2
        rw [← hwB]
        clear hwB ht hv hA hP hb hj hx hj4 pn v1 v2 hix g2
        have hd : Bel wB wB.drew := bel_drew' (Below.refl _ _)
        go_region_held3 (fun w' => w'.cell? ⟨wr.heap.size, 0, none⟩ = some (.bool true) ∧ w'.cell? ⟨wr.heap.size, 1, none⟩ = some (.string ts) ∧ w'.cell? ⟨w.heap.size, 3 + j * 2, none⟩ = some (.bool xv) ∧ w'.cell? ⟨w.heap.size, 3 + j * 2 + 1, none⟩ = some (.string xs)) (first | go_keep | trivial)
          (first | (go_at_call 69; refine (hIx.out _ (HPB.out.bel hd).terms).mono ?_; rintro e w3 ⟨rfl, hg⟩; have H3 := Lib.hid (hd.trans' hg); have k1 := cell_bel x1 H3.out; have k2 := cell_bel x2 H3.out; have k3 := cell_bel y1 H3.out; have k4 := cell_bel y2 H3.out; have k5 := cell_bel z1 H3.out; have k6 := cell_bel z2 H3.out; have hT7 := hT7.bel H3.out; have k7 := hT7.frozen 0; have k8 := hT7.frozen 1; clear hg))
        obtain ⟨w4, hw4⟩ : ∃ w4, w4 = (w3.setCell ⟨wr.heap.size + 1, 0, none⟩ (.bool xv)).setCell ⟨wr.heap.size + 1, 1, none⟩ (.string xs) := ⟨_, rfl⟩
        rw [← hw4]
        obtain ⟨hS, hbS, hoS⟩ := set_term hT7 ⟨xv, xs⟩ hw4
        have HB4 : RowKit.Hid (Bel w w4) := Lib.hid (Below.trans (HBA.out.trans' H3.out) (hbS.mono (by omega)))
        have HW4 : RowKit.Hid (Bel w1 w4) := Lib.hid (Below.trans (HWA.out.trans' H3.out) (hbS.mono (by have := HW.out.size; omega)))
        have hA4 : AtomAt w4 w.heap.size a := (hoS w.heap.size (by omega)).trans (HAB.out.bel H3.out)
        have hP4 : AtomAt w4 (w.heap.size + 1) p := (hoS (w.heap.size + 1) (by omega)).trans (HPB.out.bel H3.out)
        obtain ⟨v1, v2⟩ := terms_at hA4 HTV.out.2
        simp only at v1 v2
        obtain ⟨_, _, pn, _⟩ := hP4.cells
        rw [HNP.out] at pn
        obtain ⟨s1, s2⟩ := hS.cells
        simp only at s1 s2
        clear hw4 hS hbS hoS hA4 hP4 k1 k2 k3 k4 k5 k6 k7 k8 hT7 hT6 y1 y2 z1 z2 x1 x2 hIx hd
        by_cases hkN : k = N
        · have HF := Lib.hid (under_yes HAL.out (by rw [← HN.out, ← hkN]; exact HU.out))
          have hkn : ((k : Int) == (N : Int)) = true := by rw [hkN]; simp
          clear hkN
          go_wp2
          try rw [Exit.noGoto_ret]
          go_ret
          exact ⟨ret_bool HF.out.symm, HB4.out⟩
        · have hlt : k < N := by omega
          have hkn : ((k : Int) == (N : Int)) = false := by rw [beq_eq_false_iff_ne]; omega
          have hq := neq_term xv vv xs vs
          cases hf : eqT ⟨xv, xs⟩ ⟨vv, vs⟩ <;> rw [hf] at hq
          · have HE := Lib.hid (under_not (by rw [← HN.out]; exact hlt) (HFX.out.trans hf))
            clear hf hkN hlt
            go_wp2
            go_quiet (fail)
            go_wp2
            try rw [Exit.noGoto_ret]
            go_ret
            exact ⟨ret_bool HE.out.symm, HB4.out.trans' (by first | exact Below.refl _ _ | exact bel_drewN _ _)⟩
          · have HS := Lib.hid (range_succ HU.out (HFX.out.trans hf))
            clear hf hkN
            go_wp2
            go_quiet (fail)
            go_wp2
            go_roundw
            case rel => exact ⟨k + 1, by omega, by go_num, Lib.hid (HW4.out.trans' (by first | exact Below.refl _ _ | exact bel_drewN _ _)), HS⟩
            case measure => simp [intOf]; omega
    · have hq4 : ¬ (k : Int) < 4 := by omega
      have hkN : k = N := by omega
      have HF := Lib.hid (under_yes HAL.out (by rw [← HN.out, ← hkN]; exact HU.out))
      clear hkN hA hP
      go_wp2
      go_ret
      exact ⟨ret_bool HF.out.symm, hb⟩
end Go.Proofs.Ytlbollmmomheoaa
