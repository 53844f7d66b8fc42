/-
  The reference's matching: the walk. Conditions: as each says.
-/
import Derived.Test.YtkcnbdlhggoojaaUnA
import Derived.Test.YtkcnbdlhggoojaaMaE
namespace Go.Proofs.Ytkcnbdlhggoojaa
open Go.RowKit

set_option maxRecDepth 20000 in
set_option maxHeartbeats 4000000 in
theorem rAlike5_any (a b : AtomD) (w : World) :
    Calls Try.prog 40 #[.agg #[.string a.says, .string a.pred, .int .i64 a.n, .bool a.t0.v, .string a.t0.name, .bool a.t1.v, .string a.t1.name, .bool a.t2.v, .string a.t2.name, .bool a.t3.v, .string a.t3.name], .agg #[.string b.says, .string b.pred, .int .i64 b.n, .bool b.t0.v, .string b.t0.name, .bool b.t1.v, .string b.t1.name, .bool b.t2.v, .string b.t2.name, .bool b.t3.v, .string b.t3.name]] w fun e w' => e = .returned (.bool (alikeD a b)) ∧ Bel w w' := by
  have hb := (bel_alloc w (.cells #[.string a.says, .string a.pred, .int .i64 a.n, .bool a.t0.v, .string a.t0.name, .bool a.t1.v, .string a.t1.name, .bool a.t2.v, .string a.t2.name, .bool a.t3.v, .string a.t3.name] 26)).trans' (bel_alloc _ (.cells #[.string b.says, .string b.pred, .int .i64 b.n, .bool b.t0.v, .string b.t0.name, .bool b.t1.v, .string b.t1.name, .bool b.t2.v, .string b.t2.name, .bool b.t3.v, .string b.t3.name] 26))
  have HL : RowKit.Hid (alikeD a b = ((a.says.toList == b.says.toList) && ((a.pred.toList == b.pred.toList) && ((a.n == b.n) && (decide (0 ≤ a.n) && decide (a.n ≤ 4)))))) := Lib.hid rfl
  rcases Bool.eq_false_or_eq_true (a.says.toList == b.says.toList) with q1 | q1 <;> rcases Bool.eq_false_or_eq_true (a.pred.toList == b.pred.toList) with q2 | q2 <;> rcases Bool.eq_false_or_eq_true (a.n == b.n) with q3 | q3 <;> rcases Bool.eq_false_or_eq_true (decide (0 ≤ a.n)) with q4 | q4 <;> rcases Bool.eq_false_or_eq_true (decide (a.n ≤ 4)) with q5 | q5
  all_goals
    rw [q1, q2, q3, q4, q5] at HL
    go_enter Try.func40, Try.ntmps40
    go_wp2
    go_ret
    exact ⟨ret_bool HL.out.symm, hb⟩
theorem extL_get {m : List BindD} {t z : TermD} (hv : t.v = true) (h : (z, true) = getR m t.name) : subT m t = z := by
  unfold subT
  rw [if_pos hv]
  unfold getR at h
  cases e : getB m t.name with
  | none => rw [e] at h; cases (Prod.mk.inj h).2
  | some x => rw [e] at h; exact (Prod.mk.inj h).1.symm
theorem extL_free {m : List BindD} {t z : TermD} (hv : t.v = true) (h : (z, false) = getR m t.name) : subT m t = t := by
  unfold subT
  rw [if_pos hv]
  unfold getR at h
  cases e : getB m t.name with
  | none => rfl
  | some x => rw [e] at h; cases (Prod.mk.inj h).2
theorem flat_got {m : List BindD} (hm : Flat m) {v : ByteArray} {z : TermD} (h : (z, true) = getR m v) : z.v = false := by
  have := flat_getR hm v
  rw [← h] at this
  exact this
theorem extL_isNone {m : List BindD} {ts us : List TermD} {l : List BindD} {p g : AtomD} (hp : preD l p g = true) (h : none = extL l (argsN p) (argsN g)) : extR l p g = ([], false) := extR_none hp h.symm
set_option maxRecDepth 20000 in
set_option maxHeartbeats 16000000 in
theorem rExtend0_any (p g : AtomD) (hp : ∀ t ∈ argsN p, t.v = true → t.name ≠ emp) (hgr : groundD g = true) (w : World) :
    Calls Try.prog 28 #[.slice none 0 0, .agg #[.string p.says, .string p.pred, .int .i64 p.n, .bool p.t0.v, .string p.t0.name, .bool p.t1.v, .string p.t1.name, .bool p.t2.v, .string p.t2.name, .bool p.t3.v, .string p.t3.name], .agg #[.string g.says, .string g.pred, .int .i64 g.n, .bool g.t0.v, .string g.t0.name, .bool g.t1.v, .string g.t1.name, .bool g.t2.v, .string g.t2.name, .bool g.t3.v, .string g.t3.name]] w fun e w' => (∃ q c out is, RowKit.Hid ((out, is) = extR [] p g) ∧ RowKit.Hid (BL w' q c out) ∧ e = .returned (.tuple #[.slice q out.length c, .bool is])) ∧ Bel w w' := by
  have hP := AtomAt.new w p
  have hG := AtomAt.new (w.alloc (.cells #[.string p.says, .string p.pred, .int .i64 p.n, .bool p.t0.v, .string p.t0.name, .bool p.t1.v, .string p.t1.name, .bool p.t2.v, .string p.t2.name, .bool p.t3.v, .string p.t3.name] 26)) g
  rw [show (w.alloc (.cells #[.string p.says, .string p.pred, .int .i64 p.n, .bool p.t0.v, .string p.t0.name, .bool p.t1.v, .string p.t1.name, .bool p.t2.v, .string p.t2.name, .bool p.t3.v, .string p.t3.name] 26)).heap.size = w.heap.size + 1 by simp] at hG
  have g2 := bel_alloc (w.alloc (.cells #[.string p.says, .string p.pred, .int .i64 p.n, .bool p.t0.v, .string p.t0.name, .bool p.t1.v, .string p.t1.name, .bool p.t2.v, .string p.t2.name, .bool p.t3.v, .string p.t3.name] 26)) (.cells #[.string g.says, .string g.pred, .int .i64 g.n, .bool g.t0.v, .string g.t0.name, .bool g.t1.v, .string g.t1.name, .bool g.t2.v, .string g.t2.name, .bool g.t3.v, .string g.t3.name] 26)
  have hP := hP.bel g2
  have hb := (bel_alloc w (.cells #[.string p.says, .string p.pred, .int .i64 p.n, .bool p.t0.v, .string p.t0.name, .bool p.t1.v, .string p.t1.name, .bool p.t2.v, .string p.t2.name, .bool p.t3.v, .string p.t3.name] 26)).trans' g2
  clear g2
  have hC := Lib.hid (fun W => rCheck4_any none [] 0 0 rfl W (SliceAt.mkNil W) (by simp))
  rw [show errB [] = 0 from by decide] at hC
  have hAl := Lib.hid (fun W => rAlike5_any p g W)
  have hGr := Lib.hid (fun W => rGround_any g W)
  rw [hgr] at hGr
  obtain ⟨p0, p1, p2, p3, p4, p5, p6, p7, p8, p9, p10⟩ := hP.cells
  obtain ⟨g0, g1, g2, g3, g4, g5, g6, g7, g8, g9, g10⟩ := hG.cells
  cases hal : alikeD p g
  · rw [hal] at hAl
    have HE := Lib.hid (extR_no (l := []) (pre_no1 hal))
    clear hal
    go_enter Try.func28, Try.ntmps28
    go_wp2_with (first | (go_at_call 11; refine (hC.out _).mono ?_; rintro e w1 ⟨rfl, hg⟩; have hP := hP.bel hg; have hG := hG.bel hg; obtain ⟨p0, p1, p2, p3, p4, p5, p6, p7, p8, p9, p10⟩ := hP.cells; obtain ⟨g0, g1, g2, g3, g4, g5, g6, g7, g8, g9, g10⟩ := hG.cells; have hb := hb.trans' hg; clear hg) | (go_at_call 40; refine (hAl.out _).mono ?_; rintro e w2 ⟨rfl, hg⟩; have hb := hb.trans' hg; clear hg))
    go_ret2
    exact ⟨⟨none, 0, [], false, Lib.hid HE.out.symm, Lib.hid (SliceAt.mkNil _), rfl⟩, hb⟩
  rw [hal] at hAl
  have HPRE := Lib.hid (pre_iff.2 ⟨hal, hgr, (by decide : checkB [] = true), bindable_flat Flat.nil (fun v hv => by
    obtain ⟨t, ht, htv, rfl⟩ := (names_mem true _ _).1 hv
    exact hp t ht htv)⟩)
  obtain ⟨x1, x2, hpn, hn0, hn4⟩ := alike_iff.1 hal
  obtain ⟨N, hN⟩ : ∃ N, N = cntI p.n := ⟨_, rfl⟩
  have hNn : (N : Int) = p.n := by rw [hN]; unfold cntI; omega
  have HN := Lib.hid hN
  have HNG : RowKit.Hid (N = cntI g.n) := Lib.hid (by rw [hN, hpn])
  have hN4 : N ≤ 4 := by omega
  have HNP := Lib.hid hNn
  have HGR := Lib.hid (ground_iff.1 hgr)
  have HPV := Lib.hid hp
  clear hal x1 x2 hpn hn0 hn4 hNn hN hp hgr
  go_enter Try.func28, Try.ntmps28
  go_wp2_with (first | (go_at_call 11; refine (hC.out _).mono ?_; rintro e w1 ⟨rfl, hg⟩; have hP := hP.bel hg; have hG := hG.bel hg; obtain ⟨p0, p1, p2, p3, p4, p5, p6, p7, p8, p9, p10⟩ := hP.cells; obtain ⟨g0, g1, g2, g3, g4, g5, g6, g7, g8, g9, g10⟩ := hG.cells; have hb := hb.trans' hg; clear hg) | (go_at_call 40; refine (hAl.out _).mono ?_; rintro e w2 ⟨rfl, hg⟩; have hP := hP.bel hg; have hG := hG.bel hg; obtain ⟨p0, p1, p2, p3, p4, p5, p6, p7, p8, p9, p10⟩ := hP.cells; obtain ⟨g0, g1, g2, g3, g4, g5, g6, g7, g8, g9, g10⟩ := hG.cells; have hb := hb.trans' hg; clear hg) | (go_at_call 13; refine (hGr.out _).mono ?_; rintro e w3 ⟨rfl, hg⟩; have hP := hP.bel hg; have hG := hG.bel hg; have hb := hb.trans' hg; clear hg))
  have HP := Lib.hid hP
  have HG := Lib.hid hG
  have HB := Lib.hid hb
  clear hP hG hb p0 p1 p2 p3 p4 p5 p6 p7 p8 p9 p10 g0 g1 g2 g3 g4 g5 g6 g7 g8 g9 g10 hAl hGr hC
  go_loopw [8] (fun i wr => ∃ k : Nat, k ≤ N ∧ i = .int .i64 k ∧ RowKit.Hid (Bel w3 wr)) (fun i _ => 4 - (intOf i).toNat)
  case atStart => exact ⟨0, Nat.zero_le _, rfl, Lib.hid (Below.refl _ _)⟩
  case round =>
    obtain ⟨k, hk, rfl, HW⟩ := hrel
    have hP := HP.out.bel HW.out
    obtain ⟨_, _, pn, _⟩ := hP.cells
    rw [← HNP.out] at pn
    by_cases hlt : k < N
    · have hk4 : k < 4 := by omega
      have hk4i : (k : Int) < 4 := by omega
      have hk0 : (0 : Int) ≤ k := by omega
      have hkN : (k : Int) < (N : Int) := by omega
      obtain ⟨s, hs⟩ := args_get p k hk4
      obtain ⟨a1, a2⟩ := terms_at hP hs
      have hne : s.v = true → s.name ≠ emp := by
        obtain ⟨h1, h2, h3⟩ := argsN_at (a := p) (i := k) (by rw [← HN.out]; exact hlt)
        have e : (argsN p)[k] = s := by
          rw [h3]
          rw [List.getElem?_eq_getElem h2] at hs
          injection hs
        exact HPV.out s (by rw [← e]; exact List.getElem_mem h1)
      clear hs
      obtain ⟨sv, sn⟩ := s
      simp only at a1 a2 hne
      have hGt := Lib.hid (fun W => rGet_any none [] 0 0 rfl sn W (SliceAt.mkNil W) (by simp))
      have HW1 := Lib.hid (HW.out.trans' (bel_alloc wr (.cells #[.bool sv, .string sn] 23)))
      have hT1 : TermAt (wr.alloc (.cells #[.bool sv, .string sn] 23)) wr.heap.size ⟨sv, sn⟩ := TermAt.new wr ⟨sv, sn⟩
      have t1 := hT1.cells.1
      have t2 := hT1.cells.2
      simp only at t1 t2
      clear hP
      cases sv
      · clear hne
        go_wp2_with (go_at_call 25; refine (hGt.out _).mono ?_; rintro e w5 ⟨⟨z, is, HZ, rfl⟩, hg⟩; have hT5 := hT1.bel (hg.trans' (bel_alloc w5 (.cells #[.bool z.v, .string z.name] 23))); have t1 := hT5.cells.1; have t2 := hT5.cells.2; have HW5 := Lib.hid ((HW1.out.trans' hg).trans' (bel_alloc w5 (.cells #[.bool z.v, .string z.name] 23))); simp only at t1 t2; clear hg)
        go_roundw
        case rel => exact ⟨k + 1, by omega, by go_num, HW5⟩
        case measure => simp [intOf]; omega
      · have hne2 := ne_emp (hne rfl)
        have hne3 : sn.toList.isEmpty = false := by simpa using hne2
        have e0 : getR [] sn = (zeroT, false) := by simp [getR, getB]
        have HE0 := Lib.hid e0
        clear hne e0
        go_wp2_with (go_at_call 25; refine (hGt.out _).mono ?_; rintro e w5 ⟨⟨z, is, HZ, rfl⟩, hg⟩; obtain ⟨rfl, rfl⟩ := Prod.mk.inj (HZ.out.trans HE0.out); have hT5 := hT1.bel (hg.trans' (bel_alloc w5 (.cells #[.bool zeroT.v, .string zeroT.name] 23))); have t1 := hT5.cells.1; have t2 := hT5.cells.2; have HW5 := Lib.hid ((HW1.out.trans' hg).trans' (bel_alloc w5 (.cells #[.bool zeroT.v, .string zeroT.name] 23))); simp only at t1 t2; clear hg)
        go_roundw
        case rel => exact ⟨k + 1, by omega, by go_num, HW5⟩
        case measure => simp [intOf]; omega
    · have hkN : ¬ (k : Int) < (N : Int) := by omega
      have hb2 := bel_alloc wr (.cells #[] 37)
      have ho0 : (wr.alloc (.cells #[] 37)).ownsRow 0 37 3 (.slice (some ⟨wr.heap.size, 0, none⟩) 0 0) 0 [] := World.ownsRow_lit (base := 0) (e := 37) (size := 3) wr #[] 0 (Nat.zero_le _) (by unfold maxLen; omega) (by simp)
      have hO : OB wr (wr.alloc (.cells #[] 37)) (some ⟨wr.heap.size, 0, none⟩) 0 [] := ⟨ho0, hb2, fun g hg => by simp [Value.ownBlock] at hg; omega⟩
      have HO := Lib.hid hO
      have hN0 : (0 : Int) ≤ N := by omega
      clear ho0 hO hb2 hP hlt hk
      go_wp2_with (at_builtin; refine wpList_pushes rfl (.tmp 65) (.tmp 66) 27 Try.underlying27 rfl rfl rfl HO.out (SliceAt.mkNil _) rfl (by simp) ?_; intro q' c' w5 out' HX' HO'; obtain rfl : out' = [] := HX'.out)
      have HW5 := Lib.hid (HW.out.trans' HO'.out.bel)
      clear pn
      go_loopw [12, 13] (fun s12 i wx => ∃ (k : Nat) (m : List BindD) (q : Option Addr) (c : Nat), k ≤ N ∧ i = .int .i64 k ∧ s12 = .slice q m.length c ∧ m.length ≤ k ∧ RowKit.Hid (BL wx q c m ∧ Bel w3 wx ∧ Flat m ∧ extL m ((argsN p).drop k) ((argsN g).drop k) = extL [] (argsN p) (argsN g))) (fun _ i _ => 4 - (intOf i).toNat)
      case atStart => exact ⟨0, [], q', c', Nat.zero_le _, rfl, rfl, Nat.le_refl _, Lib.hid ⟨OwnL.slice EB HO'.out, HW5.out, Flat.nil, rfl⟩⟩
      case round =>
        obtain ⟨k2, m, q, c, hk, rfl, rfl, hml, H⟩ := hrel
        have HM := Lib.hid H.out.1
        have HWx := Lib.hid H.out.2.1
        have HFl := Lib.hid H.out.2.2.1
        have HR := Lib.hid H.out.2.2.2
        clear H HO HO' HW5
        have hP := HP.out.bel HWx.out
        obtain ⟨_, _, pn, _⟩ := hP.cells
        rw [← HNP.out] at pn
        by_cases hlt : k2 < N
        case neg =>
          have hkN2 : ¬ (k2 : Int) < (N : Int) := by omega
          have HF := Lib.hid (extR_some HPRE.out (HR.out.symm.trans (extL_end (by rw [← HN.out]; omega))))
          have HBB := Lib.hid (HB.out.trans' HWx.out)
          clear hP
          go_wp2
          go_ret2
          first | exact ⟨⟨q, c, m, true, Lib.hid HF.out.symm, HM, rfl⟩, HBB.out⟩ | exact ⟨⟨q, c, m, .inr ⟨Lib.hid HF.out.symm, HM, rfl⟩⟩, HBB.out⟩
        have hk4 : k2 < 4 := by omega
        have hk4i : (k2 : Int) < 4 := by omega
        have hk0 : (0 : Int) ≤ k2 := by omega
        have hkN3 : (k2 : Int) < (N : Int) := by omega
        obtain ⟨s, hs⟩ := args_get p k2 hk4
        obtain ⟨t, ht⟩ := args_get g k2 hk4
        have hG := HG.out.bel HWx.out
        obtain ⟨a1, a2⟩ := terms_at hP hs
        obtain ⟨b1, b2⟩ := terms_at hG ht
        have HS : RowKit.Hid (extL m (s :: (argsN p).drop (k2 + 1)) (t :: (argsN g).drop (k2 + 1)) = extL [] (argsN p) (argsN g)) := Lib.hid (by
          rw [← drop_at (by rw [← HN.out]; exact hlt) hs, ← drop_at (by rw [← HNG.out]; exact hlt) ht]
          exact HR.out)
        have HTV : RowKit.Hid (t.v = false) := Lib.hid (by
          obtain ⟨h1, h2, h3⟩ := argsN_at (a := g) (i := k2) (by rw [← HNG.out]; exact hlt)
          have e : (argsN g)[k2] = t := by
            rw [h3]
            rw [List.getElem?_eq_getElem h2] at ht
            injection ht
          exact HGR.out t (by rw [← e]; exact List.getElem_mem h1))
        have hgl := hG.lt
        clear hs ht hP hG HR
        obtain ⟨sv, sn⟩ := s
        obtain ⟨tv, tn⟩ := t
        simp only at a1 a2 b1 b2
        have e1 : wr.heap.size ≠ w.heap.size := by omega
        have e2 : wr.heap.size ≠ w.heap.size + 1 := by omega
        have e4 : wr.heap.size + 1 ≠ w.heap.size := by omega
        have e5 : wr.heap.size + 1 ≠ w.heap.size + 1 := by omega
        have e7 : w.heap.size < wr.heap.size := by omega
        have e9 : w.heap.size ≤ wr.heap.size := by omega
        go_upto_region 14 with fail
        go_cut [14, 15] (fun s14 s15 wy => ∃ (b14 b15 : Nat), s14 = .pointer (some ⟨b14, 0, none⟩) ∧ s15 = .pointer (some ⟨b15, 0, none⟩) ∧ RowKit.Hid (TermAt wy b14 ⟨sv, sn⟩ ∧ TermAt wy b15 ⟨tv, tn⟩ ∧ Bel wr wy))
        case first =>
          have hd : Bel wr wr.drew := bel_drew' (Below.refl _ _)
          clear HS
          go_region_held3 (fun w' => w'.cell? ⟨w.heap.size, 3 + k2 * 2, none⟩ = some (.bool sv) ∧ w'.cell? ⟨w.heap.size, 3 + k2 * 2 + 1, none⟩ = some (.string sn) ∧ w'.cell? ⟨w.heap.size + 1, 3 + k2 * 2, none⟩ = some (.bool tv) ∧ w'.cell? ⟨w.heap.size + 1, 3 + k2 * 2 + 1, none⟩ = some (.string tn)) (first | go_keep | trivial) (fail)
          all_goals (go_wp2_with fail; go_meet)
          all_goals first
            | exact ⟨_, _, rfl, rfl, Lib.hid ⟨(two_new hd ⟨sv, sn⟩ ⟨tv, tn⟩).1, (two_new hd ⟨sv, sn⟩ ⟨tv, tn⟩).2.1, (two_new hd ⟨sv, sn⟩ ⟨tv, tn⟩).2.2⟩⟩
            | exact ⟨_, _, rfl, rfl, Lib.hid ⟨(two_new hd ⟨tv, tn⟩ ⟨sv, sn⟩).2.1, (two_new hd ⟨tv, tn⟩ ⟨sv, sn⟩).1, (two_new hd ⟨tv, tn⟩ ⟨sv, sn⟩).2.2⟩⟩
        obtain ⟨b14, b15, rfl, rfl, HC⟩ := hcut
        have HX := Lib.hid HC.out.1
        have HY := Lib.hid HC.out.2.1
        have HBc := Lib.hid HC.out.2.2
        have HMc := Lib.hid (HM.out.bel HBc.out)
        have HWc := Lib.hid (HWx.out.trans' HBc.out)
        obtain ⟨x1, x2⟩ := HX.out.cells
        obtain ⟨y1, y2⟩ := HY.out.cells
        simp only at x1 x2 y1 y2
        clear HC HM HWx a1 a2 b1 b2 e1 e2 e4 e5 e7 e9 hgl
        have hq := neq_term sv tv sn tn
        have HBB := Lib.hid (HB.out.trans' HWc.out)
        cases sv
        · cases hf : eqT ⟨false, sn⟩ ⟨tv, tn⟩ <;> rw [hf] at hq
          · have HF := Lib.hid (extR_none HPRE.out (HS.out.symm.trans (extL_stop (by rw [sub_const rfl]; exact hf) (by rw [sub_const rfl]))))
            clear hf
            go_wp2
            go_ret2
            first | exact ⟨⟨none, 0, [], false, Lib.hid HF.out.symm, Lib.hid (SliceAt.mkNil _), rfl⟩, HBB.out⟩ | exact ⟨⟨none, 0, [], .inl ⟨Lib.hid HF.out.symm, Lib.hid (SliceAt.mkNil _), rfl⟩⟩, HBB.out⟩
          · have HX7 := Lib.hid ((extL_eq (by rw [sub_const rfl]; exact hf)).symm.trans HS.out)
            clear hf
            go_wp2
            go_roundw
            case rel => exact ⟨k2 + 1, m, q, c, by omega, by go_num, rfl, by omega, Lib.hid ⟨HMc.out, HWc.out, HFl.out, HX7.out⟩⟩
            case measure => simp [intOf]; omega
        · have hGt := Lib.hid (rGet_any q m m.length c rfl sn wc HMc.out (by omega))
          clear hq
          go_wp2_with (fail)
          refine hGt.out.mono ?_
          rintro e w6 ⟨⟨z, is, HZ, rfl⟩, hg⟩
          have HX6 := Lib.hid ((HX.out.bel hg).bel (bel_alloc w6 (.cells #[.bool z.v, .string z.name] 23)))
          have HY6 := Lib.hid ((HY.out.bel hg).bel (bel_alloc w6 (.cells #[.bool z.v, .string z.name] 23)))
          have HM6 := Lib.hid ((HMc.out.bel hg).bel (bel_alloc w6 (.cells #[.bool z.v, .string z.name] 23)))
          have HW6 := Lib.hid ((HWc.out.trans' hg).trans' (bel_alloc w6 (.cells #[.bool z.v, .string z.name] 23)))
          have HZ6 : RowKit.Hid (TermAt (w6.alloc (.cells #[.bool z.v, .string z.name] 23)) w6.heap.size z) := Lib.hid (TermAt.new w6 z)
          have HBB := Lib.hid (HB.out.trans' HW6.out)
          clear hg x1 x2 y1 y2
          obtain ⟨x1, x2⟩ := HX6.out.cells
          obtain ⟨y1, y2⟩ := HY6.out.cells
          obtain ⟨z1, z2⟩ := HZ6.out.cells
          obtain ⟨zv, zn⟩ := z
          simp only at x1 x2 y1 y2 z1 z2
          have hq := neq_term zv tv zn tn
          cases is
          · clear hq
            have hBd := Lib.hid (rBind_any q m m.length c rfl sn ⟨tv, tn⟩ _ HM6.out (by omega))
            have HSF := Lib.hid (extL_free (t := ⟨true, sn⟩) rfl HZ.out)
            have HNE : RowKit.Hid (eqT (⟨true, sn⟩ : TermD) ⟨tv, tn⟩ = false) := Lib.hid (by
              rw [← Bool.not_eq_true, eqT_iff]
              intro e
              have := congrArg TermD.v e
              rw [HTV.out] at this
              cases this)
            go_wp2_with (fail)
            refine hBd.out.mono ?_
            rintro e w7 ⟨⟨q7, c7, out, n7, HE7, HO7, rfl⟩, hg⟩
            have HW7 := Lib.hid (HW6.out.trans' hg)
            have HB7 := Lib.hid (HB.out.trans' HW7.out)
            have HM7 := Lib.hid (OwnL.slice EB HO7.out)
            clear hg
            by_cases hz7 : n7 = 0
            · have HLn := Lib.hid (bindD_len m sn ⟨tv, tn⟩)
              have hol : out.length ≤ m.length + 1 := by
                have e7 : out.length = (bindD m sn ⟨tv, tn⟩).1.length := congrArg (fun x => x.1.length) HE7.out
                rw [e7]; exact HLn.out
              have HX7 := Lib.hid ((extL_bind (by rw [HSF.out]; exact HNE.out) (by rw [HSF.out]) (by rw [HSF.out, ← hz7]; exact HE7.out.symm)).symm.trans HS.out)
              have HF7 := Lib.hid (HFl.out.bind HTV.out rfl (by rw [← hz7]; exact HE7.out.symm)).1
              subst hz7
              clear hBd hGt
              go_wp2
              go_roundw
              case rel => exact ⟨k2 + 1, out, q7, c7, by omega, by go_num, rfl, by omega, Lib.hid ⟨HM7.out, HW7.out, HF7.out, HX7.out⟩⟩
              case measure => simp [intOf]; omega
            · have HF := Lib.hid (extR_none HPRE.out (HS.out.symm.trans (extL_fail (by rw [HSF.out]; exact HNE.out) (by rw [HSF.out]) (by rw [HSF.out]; exact HE7.out.symm) hz7)))
              have hz8 : (n7 == 0) = false := by simpa using hz7
              have hz9 : (n7 != 0) = true := by simpa using hz7
              clear hBd hGt
              go_wp2
              go_ret2
              first | exact ⟨⟨none, 0, [], false, Lib.hid HF.out.symm, Lib.hid (SliceAt.mkNil _), rfl⟩, HB7.out⟩ | exact ⟨⟨none, 0, [], .inl ⟨Lib.hid HF.out.symm, Lib.hid (SliceAt.mkNil _), rfl⟩⟩, HB7.out⟩
          · have HSG := Lib.hid (extL_get (t := ⟨true, sn⟩) rfl HZ.out)
            cases hf : eqT ⟨zv, zn⟩ ⟨tv, tn⟩ <;> rw [hf] at hq
            · have HF := Lib.hid (extR_none HPRE.out (HS.out.symm.trans (extL_stop (by rw [HSG.out]; exact hf) (by rw [HSG.out]; exact flat_got HFl.out HZ.out))))
              clear hf hGt
              go_wp2
              go_ret2
              first | exact ⟨⟨none, 0, [], false, Lib.hid HF.out.symm, Lib.hid (SliceAt.mkNil _), rfl⟩, HBB.out⟩ | exact ⟨⟨none, 0, [], .inl ⟨Lib.hid HF.out.symm, Lib.hid (SliceAt.mkNil _), rfl⟩⟩, HBB.out⟩
            · have HX7 := Lib.hid ((extL_eq (by rw [HSG.out]; exact hf)).symm.trans HS.out)
              clear hf hGt
              go_wp2
              go_roundw
              case rel => exact ⟨k2 + 1, m, q, c, by omega, by go_num, rfl, by omega, Lib.hid ⟨HM6.out, HW6.out, HFl.out, HX7.out⟩⟩
              case measure => simp [intOf]; omega
set_option maxRecDepth 20000 in
set_option maxHeartbeats 4000000 in
theorem rMatch_any (p g : AtomD) (hp : ∀ t ∈ argsN p, t.v = true → t.name ≠ emp) (hgr : groundD g = true) (w : World) :
    Calls Try.prog 14 #[.agg #[.string p.says, .string p.pred, .int .i64 p.n, .bool p.t0.v, .string p.t0.name, .bool p.t1.v, .string p.t1.name, .bool p.t2.v, .string p.t2.name, .bool p.t3.v, .string p.t3.name], .agg #[.string g.says, .string g.pred, .int .i64 g.n, .bool g.t0.v, .string g.t0.name, .bool g.t1.v, .string g.t1.name, .bool g.t2.v, .string g.t2.name, .bool g.t3.v, .string g.t3.name]] w fun e w' => (∃ q c out is, RowKit.Hid ((out, is) = extR [] p g) ∧ RowKit.Hid (BL w' q c out) ∧ e = .returned (.tuple #[.slice q out.length c, .bool is])) ∧ Bel w w' := by
  have hb := (bel_alloc w (.cells #[.string p.says, .string p.pred, .int .i64 p.n, .bool p.t0.v, .string p.t0.name, .bool p.t1.v, .string p.t1.name, .bool p.t2.v, .string p.t2.name, .bool p.t3.v, .string p.t3.name] 26)).trans' (bel_alloc _ (.cells #[.string g.says, .string g.pred, .int .i64 g.n, .bool g.t0.v, .string g.t0.name, .bool g.t1.v, .string g.t1.name, .bool g.t2.v, .string g.t2.name, .bool g.t3.v, .string g.t3.name] 26))
  have hE := Lib.hid (fun W => rExtend0_any p g hp hgr W)
  clear hp hgr
  go_enter Try.func14, Try.ntmps14
  go_wp2_with (go_at_call 28; refine (hE.out _).mono ?_; rintro e w1 ⟨⟨q, c, out, is, HE, HO, rfl⟩, hg⟩)
  go_ret2
  exact ⟨⟨q, c, out, is, HE, HO, rfl⟩, hb.trans' hg⟩
end Go.Proofs.Ytkcnbdlhggoojaa
