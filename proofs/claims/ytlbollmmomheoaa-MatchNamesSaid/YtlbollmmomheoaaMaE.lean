/-
  Extend and Match: the walks. Conditions: as each says.
-/
import Derived.Test.YtlbollmmomheoaaMaD
namespace Go.Proofs.Ytlbollmmomheoaa
open Go.RowKit

theorem extR_no {l : List BindD} {p g : AtomD} (h : preD l p g = false) : extR l p g = ([], false) := by
  have : extD l p g = none := by unfold extD; rw [if_neg (by rw [h]; decide)]
  unfold extR
  rw [this]; rfl
theorem extR_none {l : List BindD} {p g : AtomD} (hp : preD l p g = true) (h : extL l (argsN p) (argsN g) = none) : extR l p g = ([], false) := by
  have : extD l p g = none := by unfold extD; rw [if_pos hp]; exact h
  unfold extR
  rw [this]; rfl
theorem extR_some {l m : List BindD} {p g : AtomD} (hp : preD l p g = true) (h : extL l (argsN p) (argsN g) = some m) : extR l p g = (m, true) := by
  have : extD l p g = some m := by unfold extD; rw [if_pos hp]; exact h
  unfold extR
  rw [this]; rfl
theorem pre_no1 {l : List BindD} {p g : AtomD} (h : alikeD p g = false) : preD l p g = false := by unfold preD; rw [h]; rfl
theorem pre_no2 {l : List BindD} {p g : AtomD} (h : groundD g = false) : preD l p g = false := by unfold preD; rw [h]; simp
theorem pre_no3 {l : List BindD} {p g : AtomD} (h : checkB l = false) : preD l p g = false := by unfold preD; rw [h]; simp
theorem pre_no4 {l : List BindD} {p g : AtomD} (h : bindableD l p = false) : preD l p g = false := by unfold preD; rw [h]; simp
theorem drop_at {a : AtomD} {k : Nat} {t : TermD} (hk : k < cntI a.n) (ht : (argsD a)[k]? = some t) : (argsN a).drop k = t :: (argsN a).drop (k + 1) := by
  obtain ⟨h1, h2, h3⟩ := argsN_at hk
  rw [List.drop_eq_getElem_cons h1, h3]
  rw [List.getElem?_eq_getElem h2] at ht
  injection ht with ht
  rw [ht]
theorem extL_eq {m : List BindD} {t v : TermD} {ts us : List TermD} (h : eqT (subT m t) v = true) : extL m (t :: ts) (v :: us) = extL m ts us := by
  conv => lhs; unfold extL
  rw [if_pos h]
theorem extL_stop {m : List BindD} {t v : TermD} {ts us : List TermD} (h : eqT (subT m t) v = false) (k : (subT m t).v = false) : extL m (t :: ts) (v :: us) = none := by
  unfold extL
  rw [if_neg (by rw [h]; decide), if_pos k]
theorem extL_bind {m o : List BindD} {t v : TermD} {ts us : List TermD} (h : eqT (subT m t) v = false) (k : (subT m t).v = true) (hb : bindD m (subT m t).name v = (o, 0)) : extL m (t :: ts) (v :: us) = extL o ts us := by
  conv => lhs; unfold extL
  rw [if_neg (by rw [h]; decide), if_neg (by rw [k]; decide), if_pos (by rw [hb]), hb]
theorem extL_fail {m o : List BindD} {n : Int} {t v : TermD} {ts us : List TermD} (h : eqT (subT m t) v = false) (k : (subT m t).v = true) (hb : bindD m (subT m t).name v = (o, n)) (hn : n ≠ 0) : extL m (t :: ts) (v :: us) = none := by
  unfold extL
  rw [if_neg (by rw [h]; decide), if_neg (by rw [k]; decide), if_neg (by rw [hb]; exact hn)]
theorem extL_end {m : List BindD} {p g : AtomD} {k : Nat} (hk : cntI p.n ≤ k) : extL m ((argsN p).drop k) ((argsN g).drop k) = some m := by
  have : (argsN p).drop k = [] := List.drop_of_length_le (by rw [argsN_len]; exact hk)
  rw [this]; simp [extL]

theorem two_new {wB w6 : World} (h : Bel wB w6) (x y : TermD) : TermAt ((w6.alloc (.cells #[.bool x.v, .string x.name] 29)).alloc (.cells #[.bool y.v, .string y.name] 29)) w6.heap.size x ∧ TermAt ((w6.alloc (.cells #[.bool x.v, .string x.name] 29)).alloc (.cells #[.bool y.v, .string y.name] 29)) (w6.heap.size + 1) y ∧ Bel wB ((w6.alloc (.cells #[.bool x.v, .string x.name] 29)).alloc (.cells #[.bool y.v, .string y.name] 29)) := by
  have := TermAt.new (w6.alloc (.cells #[.bool x.v, .string x.name] 29)) y
  rw [show (w6.alloc (.cells #[.bool x.v, .string x.name] 29)).heap.size = w6.heap.size + 1 by simp] at this
  exact ⟨(TermAt.new w6 x).bel (bel_alloc _ _), this, (h.trans' (bel_alloc _ _)).trans' (bel_alloc _ _)⟩
theorem set_new {wB w6 : World} (h : Bel wB w6) {b : Nat} {z : TermD} (hz : TermAt w6 b z) (hb : wB.heap.size ≤ b) (x y : TermD) : TermAt (((w6.setCell ⟨b, 0, none⟩ (.bool x.v)).setCell ⟨b, 1, none⟩ (.string x.name)).alloc (.cells #[.bool y.v, .string y.name] 29)) b x ∧ TermAt (((w6.setCell ⟨b, 0, none⟩ (.bool x.v)).setCell ⟨b, 1, none⟩ (.string x.name)).alloc (.cells #[.bool y.v, .string y.name] 29)) w6.heap.size y ∧ Bel wB (((w6.setCell ⟨b, 0, none⟩ (.bool x.v)).setCell ⟨b, 1, none⟩ (.string x.name)).alloc (.cells #[.bool y.v, .string y.name] 29)) := by
  obtain ⟨h1, h2, _⟩ := set_term hz x rfl
  have := TermAt.new ((w6.setCell ⟨b, 0, none⟩ (.bool x.v)).setCell ⟨b, 1, none⟩ (.string x.name)) y
  rw [show ((w6.setCell ⟨b, 0, none⟩ (.bool x.v)).setCell ⟨b, 1, none⟩ (.string x.name)).heap.size = w6.heap.size by simp] at this
  exact ⟨h1.bel (bel_alloc _ _), this, Below.trans (Below.trans h (h2.mono hb)) ((bel_alloc _ _).mono (by have := h.size; simp; omega))⟩
theorem set_set {wB w6 : World} (h : Bel wB w6) {b d : Nat} {z y0 : TermD} (hz : TermAt w6 b z) (hy : TermAt w6 d y0) (hb : wB.heap.size ≤ b) (hd : wB.heap.size ≤ d) (hne : d ≠ b) (x y : TermD) : TermAt ((((w6.setCell ⟨b, 0, none⟩ (.bool x.v)).setCell ⟨b, 1, none⟩ (.string x.name)).setCell ⟨d, 0, none⟩ (.bool y.v)).setCell ⟨d, 1, none⟩ (.string y.name)) b x ∧ TermAt ((((w6.setCell ⟨b, 0, none⟩ (.bool x.v)).setCell ⟨b, 1, none⟩ (.string x.name)).setCell ⟨d, 0, none⟩ (.bool y.v)).setCell ⟨d, 1, none⟩ (.string y.name)) d y ∧ Bel wB ((((w6.setCell ⟨b, 0, none⟩ (.bool x.v)).setCell ⟨b, 1, none⟩ (.string x.name)).setCell ⟨d, 0, none⟩ (.bool y.v)).setCell ⟨d, 1, none⟩ (.string y.name)) := by
  obtain ⟨h1, h2, h3⟩ := set_term hz x rfl
  obtain ⟨k1, k2, k3⟩ := set_term (w := (w6.setCell ⟨b, 0, none⟩ (.bool x.v)).setCell ⟨b, 1, none⟩ (.string x.name)) ((h3 d hne).trans hy) y rfl
  exact ⟨(k3 b hne.symm).trans h1, k1, Below.trans (Below.trans h (h2.mono hb)) (k2.mono hd)⟩
set_option maxRecDepth 20000 in
set_option maxHeartbeats 16000000 in
theorem Extend_any (A : Option Addr) (l : List BindD) (n ca : Nat) (hn : l.length = n) (p g : AtomD) (w : World) (hL : BL w A ca l) (hl : l.length ≤ 90000) :
    Calls Try.prog 34 #[.slice A n ca, .agg #[.string p.says, .string p.pred, .int .i64 p.n, .bool p.t0.v, .string p.t0.name, .bool p.t1.v, .string p.t1.name, .bool p.t2.v, .string p.t2.name, .bool p.t3.v, .string p.t3.name], .agg #[.string g.says, .string g.pred, .int .i64 g.n, .bool g.t0.v, .string g.t0.name, .bool g.t1.v, .string g.t1.name, .bool g.t2.v, .string g.t2.name, .bool g.t3.v, .string g.t3.name]] w fun e w' => (∃ q c out is, RowKit.Hid ((out, is) = extR l p g) ∧ RowKit.Hid (OB w w' q c out) ∧ e = .returned (.tuple #[.slice q out.length c, .bool is])) ∧ Bel w w' := by
  subst hn
  have HL := Lib.hid hL
  clear hL
  have hP := AtomAt.new w p
  have hG := AtomAt.new (w.alloc (.cells #[.string p.says, .string p.pred, .int .i64 p.n, .bool p.t0.v, .string p.t0.name, .bool p.t1.v, .string p.t1.name, .bool p.t2.v, .string p.t2.name, .bool p.t3.v, .string p.t3.name] 43)) g
  rw [show (w.alloc (.cells #[.string p.says, .string p.pred, .int .i64 p.n, .bool p.t0.v, .string p.t0.name, .bool p.t1.v, .string p.t1.name, .bool p.t2.v, .string p.t2.name, .bool p.t3.v, .string p.t3.name] 43)).heap.size = w.heap.size + 1 by simp] at hG
  have g2 := bel_alloc (w.alloc (.cells #[.string p.says, .string p.pred, .int .i64 p.n, .bool p.t0.v, .string p.t0.name, .bool p.t1.v, .string p.t1.name, .bool p.t2.v, .string p.t2.name, .bool p.t3.v, .string p.t3.name] 43)) (.cells #[.string g.says, .string g.pred, .int .i64 g.n, .bool g.t0.v, .string g.t0.name, .bool g.t1.v, .string g.t1.name, .bool g.t2.v, .string g.t2.name, .bool g.t3.v, .string g.t3.name] 43)
  have hP := hP.bel g2
  have hb := (bel_alloc w (.cells #[.string p.says, .string p.pred, .int .i64 p.n, .bool p.t0.v, .string p.t0.name, .bool p.t1.v, .string p.t1.name, .bool p.t2.v, .string p.t2.name, .bool p.t3.v, .string p.t3.name] 43)).trans' g2
  clear g2
  have hAl := Lib.hid (fun W => alike_any p g W)
  cases hal : alikeD p g
  · rw [hal] at hAl
    have HE := Lib.hid (extR_no (l := l) (pre_no1 hal))
    clear hal
    go_enter Try.func34, Try.ntmps34
    go_wp2
    go_step3
    go_wp2_with (go_at_call 65; refine (hAl.out _).mono ?_; rintro e w1 ⟨rfl, hg⟩; have hb := hb.trans' hg; clear hg)
    try rw [Exit.noGoto_ret]
    go_ret2
    exact ⟨⟨none, 0, [], false, Lib.hid HE.out.symm, Lib.hid (OB.nil w hb), rfl⟩, hb⟩
  rw [hal] at hAl
  have hGr := Lib.hid (fun W => ground_any g W)
  cases hgr : groundD g
  · rw [hgr] at hGr
    have HE := Lib.hid (extR_no (l := l) (pre_no2 (p := p) hgr))
    clear hal hgr
    go_enter Try.func34, Try.ntmps34
    go_wp2
    go_step3
    go_wp2_with (first | (go_at_call 65; refine (hAl.out _).mono ?_; rintro e w1 ⟨rfl, hg⟩; have hG := hG.bel hg; obtain ⟨g0, g1, g2, g3, g4, g5, g6, g7, g8, g9, g10⟩ := hG.cells; have hb := hb.trans' hg; clear hg) | (go_at_call 66; refine (hGr.out _).mono ?_; rintro e w2 ⟨rfl, hg⟩; have hb := hb.trans' hg; clear hg))
    try rw [Exit.noGoto_ret]
    go_ret2
    exact ⟨⟨none, 0, [], false, Lib.hid HE.out.symm, Lib.hid (OB.nil w hb), rfl⟩, hb⟩
  rw [hgr] at hGr
  have hCk := Lib.hid (fun W (hg : Bel w W) => Check_any A l ca W (HL.out.bel hg) (by omega))
  cases hck : checkB l
  · rw [errB_bad hck] at hCk
    have HE := Lib.hid (extR_no (p := p) (g := g) (pre_no3 hck))
    clear hal hgr hck
    go_enter Try.func34, Try.ntmps34
    go_wp2
    go_step3
    go_wp2_with (first | (go_at_call 65; refine (hAl.out _).mono ?_; rintro e w1 ⟨rfl, hg⟩; have hG := hG.bel hg; obtain ⟨g0, g1, g2, g3, g4, g5, g6, g7, g8, g9, g10⟩ := hG.cells; have hb := hb.trans' hg; clear hg) | (go_at_call 66; refine (hGr.out _).mono ?_; rintro e w2 ⟨rfl, hg⟩; have hb := hb.trans' hg; clear hg) | (go_at_call 20; refine (hCk.out _ hb).mono ?_; rintro e w3 ⟨rfl, hg⟩; have hb := hb.trans' hg; clear hg))
    try rw [Exit.noGoto_ret]
    go_ret2
    exact ⟨⟨none, 0, [], false, Lib.hid HE.out.symm, Lib.hid (OB.nil w hb), rfl⟩, hb⟩
  rw [errB_ok hck] at hCk
  have hBi := Lib.hid (fun W (hg : Bel w W) => bindable_any A l l.length ca rfl p W (HL.out.bel hg) (by omega))
  cases hbi : bindableD l p
  · rw [hbi] at hBi
    have HE := Lib.hid (extR_no (g := g) (pre_no4 hbi))
    clear hal hgr hck hbi
    go_enter Try.func34, Try.ntmps34
    go_wp2
    go_step3
    go_wp2_with (first | (go_at_call 65; refine (hAl.out _).mono ?_; rintro e w1 ⟨rfl, hg⟩; have hP := hP.bel hg; have hG := hG.bel hg; obtain ⟨g0, g1, g2, g3, g4, g5, g6, g7, g8, g9, g10⟩ := hG.cells; have hb := hb.trans' hg; clear hg) | (go_at_call 66; refine (hGr.out _).mono ?_; rintro e w2 ⟨rfl, hg⟩; have hP := hP.bel hg; have hb := hb.trans' hg; clear hg) | (go_at_call 20; refine (hCk.out _ hb).mono ?_; rintro e w3 ⟨rfl, hg⟩; have hP := hP.bel hg; obtain ⟨p0, p1, p2, p3, p4, p5, p6, p7, p8, p9, p10⟩ := hP.cells; have hb := hb.trans' hg; clear hg) | (go_at_call 67; refine (hBi.out _ hb).mono ?_; rintro e w4 ⟨rfl, hg⟩; have hb := hb.trans' hg; clear hg))
    try rw [Exit.noGoto_ret]
    go_ret2
    exact ⟨⟨none, 0, [], false, Lib.hid HE.out.symm, Lib.hid (OB.nil w hb), rfl⟩, hb⟩
  rw [hbi] at hBi
  have hpre : preD l p g = true := pre_iff.2 ⟨hal, hgr, hck, hbi⟩
  have HPRE := Lib.hid hpre
  obtain ⟨hx1, hx2, hpn, hn0, hn4⟩ := alike_iff.1 hal
  obtain ⟨N, hN⟩ : ∃ N, N = cntI p.n := ⟨_, rfl⟩
  have hNn : (N : Int) = p.n := by rw [hN]; unfold cntI; omega
  have HN := Lib.hid hN
  have HNG : RowKit.Hid (N = cntI g.n) := Lib.hid (by rw [hN, hpn])
  have hN4 : N ≤ 4 := by omega
  have HNP := Lib.hid hNn
  clear hx1 hx2 hal hgr hck hbi hpre hpn hn0 hn4 hNn hN
  have hCl := Lib.hid (fun W (hg : Bel w W) => clone_any A l l.length ca rfl W (HL.out.bel hg) (by omega))
  go_enter Try.func34, Try.ntmps34
  go_wp2
  go_step3
  go_wp2_with (first | (go_at_call 65; refine (hAl.out _).mono ?_; rintro e w1 ⟨rfl, hg⟩; have hP := hP.bel hg; have hG := hG.bel hg; obtain ⟨g0, g1, g2, g3, g4, g5, g6, g7, g8, g9, g10⟩ := hG.cells; have hb := hb.trans' hg; clear hg) | (go_at_call 66; refine (hGr.out _).mono ?_; rintro e w2 ⟨rfl, hg⟩; have hP := hP.bel hg; have hG := hG.bel hg; have hb := hb.trans' hg; clear hg) | (go_at_call 20; refine (hCk.out _ hb).mono ?_; rintro e w3 ⟨rfl, hg⟩; have hP := hP.bel hg; have hG := hG.bel hg; obtain ⟨p0, p1, p2, p3, p4, p5, p6, p7, p8, p9, p10⟩ := hP.cells; have hb := hb.trans' hg; clear hg) | (go_at_call 67; refine (hBi.out _ hb).mono ?_; rintro e w4 ⟨rfl, hg⟩; have hP := hP.bel hg; have hG := hG.bel hg; have hb := hb.trans' hg; clear hg) | (go_at_call 68; refine (hCl.out _ hb).mono ?_; rintro e w5 ⟨⟨q0, c0, HO, rfl⟩, hg⟩; have HO := Lib.hid (HO.out.base hb); have hP := hP.bel hg; have hG := hG.bel hg; obtain ⟨p0, p1, p2, p3, p4, p5, p6, p7, p8, p9, p10⟩ := hP.cells; have hb := hb.trans' hg; clear hg))
  go_step3
  go_wp2
  have HP := Lib.hid hP
  have HG := Lib.hid hG
  have HB := Lib.hid hb
  clear hP hG hb p0 p1 p2 p3 p4 p5 p6 p7 p8 p9 p10 g0 g1 g2 g3 g4 g5 g6 g7 g8 g9 g10 hAl hGr hCk hBi hCl
  go_loopw [8, 39] (fun s8 i wr => ∃ (k : Nat) (m : List BindD) (q : Option Addr) (c : Nat), k ≤ N ∧ i = .int .i64 k ∧ s8 = .slice q m.length c ∧ m.length ≤ l.length + k ∧ RowKit.Hid (OB w wr q c m ∧ Bel w5 wr ∧ extL m ((argsN p).drop k) ((argsN g).drop k) = extL l (argsN p) (argsN g))) (fun _ i _ => 4 - (intOf i).toNat)
  case atStart => exact ⟨0, l, q0, c0, Nat.zero_le _, rfl, rfl, Nat.le_refl _, Lib.hid ⟨HO.out, Below.refl _ _, rfl⟩⟩
  case round =>
    obtain ⟨k, m, q, c, hk, rfl, rfl, hml, H⟩ := hrel
    have HM := Lib.hid H.out.1
    have HW := Lib.hid H.out.2.1
    have HR := Lib.hid H.out.2.2
    clear H
    by_cases hk4 : k < 4
    · have hk4i : (k : Int) < 4 := by omega
      have hk0 : (0 : Int) ≤ k := by omega
      obtain ⟨t, ht⟩ := args_get p k hk4
      obtain ⟨v, hv⟩ := args_get g k hk4
      have hP := HP.out.bel HW.out
      have hG := HG.out.bel HW.out
      obtain ⟨v1, v2⟩ := terms_at hG hv
      have hix := fun W => run_index_terms p.t0 p.t1 p.t2 p.t3 k t ht W
      have HT := Lib.hid (And.intro ht hv)
      clear ht hv hP hG
      obtain ⟨tv, ts⟩ := t
      obtain ⟨gv, gs⟩ := v
      simp only at v1 v2 hix
      have hPl := (HG.out.bel HW.out).lt
      have hl0 : w.heap.size < wr.heap.size := by omega
      have hl1 : w.heap.size ≤ wr.heap.size := by omega
      have hl2 : w.heap.size + 1 < wr.heap.size := by omega
      have hn1 : wr.heap.size ≠ w.heap.size + 1 := by omega
      have hn2 : wr.heap.size ≠ w.heap.size := by omega
      clear hPl
      obtain ⟨wB, hwB⟩ : ∃ wB, wB = wr.alloc (.cells #[.bool tv, .string ts] 29) := ⟨_, rfl⟩
      have g2 : Bel wr wB := by rw [hwB]; exact bel_alloc _ _
      have hT10 : TermAt wB wr.heap.size ⟨tv, ts⟩ := by rw [hwB]; exact TermAt.new wr ⟨tv, ts⟩
      have HMB := Lib.hid (HM.out.bel' g2)
      have hTm := Lib.hid (fun W (hg : Bel wB W) => Term_len q m m.length c rfl ⟨tv, ts⟩ W (OwnL.slice EB (HMB.out.bel' hg)) (by omega))
      have hz : wB.heap.size = wr.heap.size + 1 := by rw [hwB]; simp
      go_upto_region 7 with fail
      go_cut [11, 12] (fun s11 s12 wx => ∃ (b11 b12 : Nat) (u : TermD), s11 = .pointer (some ⟨b11, 0, none⟩) ∧ s12 = .pointer (some ⟨b12, 0, none⟩) ∧ RowKit.Hid (u = subT m ⟨tv, ts⟩ ∧ TermAt wx b11 u ∧ TermAt wx b12 ⟨gv, gs⟩ ∧ Bel wB wx))
      case first =>
        rw [← hwB]
        obtain ⟨x1, x2⟩ := hT10.cells
        simp only at x1 x2
        have y1 := cell_bel v1 g2
        have y2 := cell_bel v2 g2
        have hd : Bel wB wB.drew := bel_drew' (Below.refl _ _)
        have hd1 := hd.trans' (bel_alloc wB.drew (.cells #[.bool false, .string ⟨#[]⟩] 29))
        have hd2 := hd1.trans' (bel_alloc _ (.cells #[.bool false, .string ⟨#[]⟩] 29))
        have hz2 := Lib.hid hz
        have m1 : wB.heap.size ≠ wr.heap.size := by omega
        have m2 : wB.heap.size ≠ w.heap.size + 1 := by omega
        have m3 : wB.heap.size + 1 ≠ wr.heap.size := by omega
        have m4 : wB.heap.size ≠ w.heap.size := by omega
        have m5 : wr.heap.size < wB.heap.size := by omega
        have m6 : w.heap.size + 1 < wB.heap.size := by omega
        have m7 : wr.heap.size ≤ wB.heap.size := by omega
        have m8 : w.heap.size < wB.heap.size := by omega
        have m9 : w.heap.size ≤ wB.heap.size := by omega
        have hz0 : TermAt (wB.drew.alloc (.cells #[.bool false, .string ⟨#[]⟩] 29)) wB.heap.size zeroT := TermAt.new wB.drew zeroT
        have hz1 : TermAt ((wB.drew.alloc (.cells #[.bool false, .string ⟨#[]⟩] 29)).alloc (.cells #[.bool false, .string ⟨#[]⟩] 29)) (wB.heap.size + 1) zeroT := by
          have := TermAt.new (wB.drew.alloc (.cells #[.bool false, .string ⟨#[]⟩] 29)) zeroT
          rwa [show (wB.drew.alloc (.cells #[.bool false, .string ⟨#[]⟩] 29)).heap.size = wB.heap.size + 1 by simp] at this
        clear hz
        clear hwB v1 v2 hix
        go_region_held3 (fun w' => w'.cell? ⟨wr.heap.size, 0, none⟩ = some (.bool tv) ∧ w'.cell? ⟨wr.heap.size, 1, none⟩ = some (.string ts) ∧ w'.cell? ⟨w.heap.size + 1, 3 + k * 2, none⟩ = some (.bool gv) ∧ w'.cell? ⟨w.heap.size + 1, 3 + k * 2 + 1, none⟩ = some (.string gs)) (first | go_keep | trivial)
          (first | (go_at_call 18; refine (hTm.out _ hd).mono ?_; rintro e w6 ⟨⟨u, HU, rfl⟩, hg⟩; have H6 := Lib.hid (hd.trans' hg); have x1 := cell_bel x1 H6.out; have x2 := cell_bel x2 H6.out; have y1 := cell_bel y1 H6.out; have y2 := cell_bel y2 H6.out; have s6 := H6.out.size; have n1 : w6.heap.size ≠ wr.heap.size := (by omega); have n2 : w6.heap.size ≠ w.heap.size + 1 := (by omega); have n3 : w6.heap.size + 1 ≠ wr.heap.size := (by omega); have n4 : w6.heap.size ≠ w.heap.size := (by omega); have n5 : wr.heap.size < w6.heap.size := (by omega); have n6 : w.heap.size + 1 < w6.heap.size := (by omega); have n7 : wr.heap.size ≤ w6.heap.size := (by omega); have n8 : w.heap.size < w6.heap.size := (by omega); have n9 : w.heap.size ≤ w6.heap.size := (by omega); clear s6 hg) | (go_at_call 18; refine (hTm.out _ hd1).mono ?_; rintro e w6 ⟨⟨u, HU, rfl⟩, hg⟩; have H6 := Lib.hid (hd1.trans' hg); have x1 := cell_bel x1 H6.out; have x2 := cell_bel x2 H6.out; have y1 := cell_bel y1 H6.out; have y2 := cell_bel y2 H6.out; have s6 := H6.out.size; have n1 : w6.heap.size ≠ wr.heap.size := (by omega); have n2 : w6.heap.size ≠ w.heap.size + 1 := (by omega); have n3 : w6.heap.size + 1 ≠ wr.heap.size := (by omega); have n4 : w6.heap.size ≠ w.heap.size := (by omega); have n5 : wr.heap.size < w6.heap.size := (by omega); have n6 : w.heap.size + 1 < w6.heap.size := (by omega); have n7 : wr.heap.size ≤ w6.heap.size := (by omega); have n8 : w.heap.size < w6.heap.size := (by omega); have n9 : w.heap.size ≤ w6.heap.size := (by omega); have hz6 := hz0.bel hg; obtain ⟨z1, z2⟩ := hz6.cells; have z3 := hz6.frozen 0; have z4 := hz6.frozen 1; have z5 := hz6.lt; have z6 : wB.heap.size ≤ w6.heap.size := (by omega); clear s6 hg) | (go_at_call 18; refine (hTm.out _ hd2).mono ?_; rintro e w6 ⟨⟨u, HU, rfl⟩, hg⟩; have H6 := Lib.hid (hd2.trans' hg); have x1 := cell_bel x1 H6.out; have x2 := cell_bel x2 H6.out; have y1 := cell_bel y1 H6.out; have y2 := cell_bel y2 H6.out; have s6 := H6.out.size; have n1 : w6.heap.size ≠ wr.heap.size := (by omega); have n2 : w6.heap.size ≠ w.heap.size + 1 := (by omega); have n3 : w6.heap.size + 1 ≠ wr.heap.size := (by omega); have n4 : w6.heap.size ≠ w.heap.size := (by omega); have n5 : wr.heap.size < w6.heap.size := (by omega); have n6 : w.heap.size + 1 < w6.heap.size := (by omega); have n7 : wr.heap.size ≤ w6.heap.size := (by omega); have n8 : w.heap.size < w6.heap.size := (by omega); have n9 : w.heap.size ≤ w6.heap.size := (by omega); have hz6 := (hz0.bel (bel_alloc _ (.cells #[.bool false, .string ⟨#[]⟩] 29))).bel hg; obtain ⟨z1, z2⟩ := hz6.cells; have z3 := hz6.frozen 0; have z4 := hz6.frozen 1; have hz7 := hz1.bel hg; obtain ⟨k1, k2⟩ := hz7.cells; have k3 := hz7.frozen 0; have k4 := hz7.frozen 1; clear s6 hg))
        all_goals (go_wp2_with fail; go_meet)
        · exact ⟨_, _, u, rfl, rfl, Lib.hid ⟨HU.out, (two_new H6.out u ⟨gv, gs⟩).1, (two_new H6.out u ⟨gv, gs⟩).2.1, (two_new H6.out u ⟨gv, gs⟩).2.2⟩⟩
        · exact ⟨_, _, u, rfl, rfl, Lib.hid ⟨HU.out, (two_new H6.out ⟨gv, gs⟩ u).2.1, (two_new H6.out ⟨gv, gs⟩ u).1, (two_new H6.out ⟨gv, gs⟩ u).2.2⟩⟩
        · exact ⟨_, _, u, rfl, rfl, Lib.hid ⟨HU.out, (set_new H6.out hz6 (Nat.le_refl _) u ⟨gv, gs⟩).1, (set_new H6.out hz6 (Nat.le_refl _) u ⟨gv, gs⟩).2.1, (set_new H6.out hz6 (Nat.le_refl _) u ⟨gv, gs⟩).2.2⟩⟩
        · exact ⟨_, _, u, rfl, rfl, Lib.hid ⟨HU.out, (set_set H6.out hz6 hz7 (Nat.le_refl _) (Nat.le_succ _) (Nat.succ_ne_self _) u ⟨gv, gs⟩).1, (set_set H6.out hz6 hz7 (Nat.le_refl _) (Nat.le_succ _) (Nat.succ_ne_self _) u ⟨gv, gs⟩).2.1, (set_set H6.out hz6 hz7 (Nat.le_refl _) (Nat.le_succ _) (Nat.succ_ne_self _) u ⟨gv, gs⟩).2.2⟩⟩
        · exact ⟨_, _, u, rfl, rfl, Lib.hid ⟨HU.out, (set_new H6.out hz6 (Nat.le_refl _) ⟨gv, gs⟩ u).2.1, (set_new H6.out hz6 (Nat.le_refl _) ⟨gv, gs⟩ u).1, (set_new H6.out hz6 (Nat.le_refl _) ⟨gv, gs⟩ u).2.2⟩⟩
        · exact ⟨_, _, u, rfl, rfl, Lib.hid ⟨HU.out, (set_set H6.out hz7 hz6 (Nat.le_succ _) (Nat.le_refl _) (Nat.succ_ne_self _).symm u ⟨gv, gs⟩).1, (set_set H6.out hz7 hz6 (Nat.le_succ _) (Nat.le_refl _) (Nat.succ_ne_self _).symm u ⟨gv, gs⟩).2.1, (set_set H6.out hz7 hz6 (Nat.le_succ _) (Nat.le_refl _) (Nat.succ_ne_self _).symm u ⟨gv, gs⟩).2.2⟩⟩
      obtain ⟨b11, b12, u, rfl, rfl, HC⟩ := hcut
      have HU := Lib.hid HC.out.1
      obtain ⟨u1, u2⟩ := HC.out.2.1.cells
      obtain ⟨o1, o2⟩ := HC.out.2.2.1.cells
      have HBc := Lib.hid (g2.trans' HC.out.2.2.2)
      have HMc := Lib.hid (HM.out.bel' HBc.out)
      have HWc := Lib.hid (HW.out.trans' HBc.out)
      obtain ⟨_, _, pn, _⟩ := (HP.out.bel HWc.out).cells
      rw [← HNP.out] at pn
      obtain ⟨uv, us⟩ := u
      simp only at u1 u2 o1 o2
      clear HC hwB g2 hT10 HMB hTm hz hl0 hl1 hl2 hn1 hn2 v1 v2 hix
      by_cases hkN : k = N
      · have hkn : ((k : Int) == (N : Int)) = true := by rw [hkN]; simp
        have HF := Lib.hid (extR_some HPRE.out (HR.out.symm.trans (extL_end (by rw [← HN.out]; omega))))
        clear hkN
        go_wp2
        try rw [Exit.noGoto_ret]
        go_ret2
        exact ⟨⟨q, c, m, true, Lib.hid HF.out.symm, HMc, rfl⟩, HMc.out.bel⟩
      have hlt : k < N := by omega
      have hkn : ((k : Int) == (N : Int)) = false := by rw [beq_eq_false_iff_ne]; omega
      have HS : RowKit.Hid (extL m (⟨tv, ts⟩ :: (argsN p).drop (k + 1)) (⟨gv, gs⟩ :: (argsN g).drop (k + 1)) = extL l (argsN p) (argsN g)) := Lib.hid (by
        rw [← drop_at (by rw [← HN.out]; exact hlt) HT.out.1, ← drop_at (by rw [← HNG.out]; exact hlt) HT.out.2]
        exact HR.out)
      have hq := eql_term uv gv us gs
      cases hf : eqT ⟨uv, us⟩ ⟨gv, gs⟩ <;> rw [hf] at hq
      · cases uv
        · have HF := Lib.hid (extR_none HPRE.out (HS.out.symm.trans (extL_stop (by rw [← HU.out]; exact hf) (by rw [← HU.out]))))
          have HBB : RowKit.Hid (Bel w wc) := Lib.hid HMc.out.bel
          clear hf hkN hlt
          go_wp2
          try rw [Exit.noGoto_ret]
          go_ret2
          exact ⟨⟨none, 0, [], false, Lib.hid HF.out.symm, Lib.hid (OB.nil w HBB.out), rfl⟩, HBB.out⟩
        · have hBd := Lib.hid (Bind_any q m c us ⟨gv, gs⟩ wc (OwnL.slice EB HMc.out) (by omega))
          have HLn := Lib.hid (bindD_len m us ⟨gv, gs⟩)
          have HBB : RowKit.Hid (Bel w wc) := Lib.hid HMc.out.bel
          have HF2 := Lib.hid hf
          clear hf
          go_wp2_with (fail)
          refine hBd.out.mono ?_
          rintro e w7 ⟨⟨q7, c7, out, n7, HE7, HO7, rfl⟩, hg⟩
          have HB7 := Lib.hid (HBB.out.trans' hg)
          have HW7 := Lib.hid (HWc.out.trans' hg)
          clear hg
          have hol : out.length ≤ m.length + 1 := by
            have e7 : out.length = (bindD m us ⟨gv, gs⟩).1.length := congrArg (fun x => x.1.length) HE7.out
            rw [e7]; exact HLn.out
          by_cases hz7 : n7 = 0
          · have HX := Lib.hid ((extL_bind (by rw [← HU.out]; exact HF2.out) (by rw [← HU.out]) (by rw [← HU.out]; exact (HE7.out.symm.trans (by rw [hz7])))).symm.trans HS.out)
            have HO8 := Lib.hid (HO7.out.base HBB.out)
            subst hz7
            clear hkN
            go_wp2
            go_roundw
            case rel => exact ⟨k + 1, out, q7, c7, by omega, by go_num, rfl, by omega, Lib.hid ⟨HO8.out, HW7.out, HX.out⟩⟩
            case measure => simp [intOf]; omega
          · have HF := Lib.hid (extR_none HPRE.out (HS.out.symm.trans (extL_fail (by rw [← HU.out]; exact HF2.out) (by rw [← HU.out]) (by rw [← HU.out]; exact HE7.out.symm) hz7)))
            have hz8 : (n7 == 0) = false := by simpa using hz7
            clear hkN hlt
            go_wp2
            try rw [Exit.noGoto_ret]
            go_ret2
            exact ⟨⟨none, 0, [], false, Lib.hid HF.out.symm, Lib.hid (OB.nil w HB7.out), rfl⟩, HB7.out⟩
      · have HX := Lib.hid ((extL_eq (by rw [← HU.out]; exact hf)).symm.trans HS.out)
        clear hf hkN
        go_wp2
        go_roundw
        case rel => exact ⟨k + 1, m, q, c, by omega, by go_num, rfl, by omega, Lib.hid ⟨HMc.out, HWc.out, HX.out⟩⟩
        case measure => simp [intOf]; omega
    · have hkN : k = N := by omega
      have hq4 : ¬ (k : Int) < 4 := by omega
      have HF := Lib.hid (extR_some HPRE.out (HR.out.symm.trans (extL_end (by rw [← HN.out]; omega))))
      clear hkN
      go_wp2
      go_ret2
      exact ⟨⟨q, c, m, true, Lib.hid HF.out.symm, HM, rfl⟩, HM.out.bel⟩
set_option maxRecDepth 20000 in
set_option maxHeartbeats 4000000 in
theorem Match_any (p g : AtomD) (w : World) :
    Calls Try.prog 33 #[.agg #[.string p.says, .string p.pred, .int .i64 p.n, .bool p.t0.v, .string p.t0.name, .bool p.t1.v, .string p.t1.name, .bool p.t2.v, .string p.t2.name, .bool p.t3.v, .string p.t3.name], .agg #[.string g.says, .string g.pred, .int .i64 g.n, .bool g.t0.v, .string g.t0.name, .bool g.t1.v, .string g.t1.name, .bool g.t2.v, .string g.t2.name, .bool g.t3.v, .string g.t3.name]] w fun e w' => (∃ q c out is, RowKit.Hid ((out, is) = extR [] p g) ∧ RowKit.Hid (OB w w' q c out) ∧ e = .returned (.tuple #[.slice q out.length c, .bool is])) ∧ Bel w w' := by
  have hb := (bel_alloc w (.cells #[.string p.says, .string p.pred, .int .i64 p.n, .bool p.t0.v, .string p.t0.name, .bool p.t1.v, .string p.t1.name, .bool p.t2.v, .string p.t2.name, .bool p.t3.v, .string p.t3.name] 43)).trans' (bel_alloc _ (.cells #[.string g.says, .string g.pred, .int .i64 g.n, .bool g.t0.v, .string g.t0.name, .bool g.t1.v, .string g.t1.name, .bool g.t2.v, .string g.t2.name, .bool g.t3.v, .string g.t3.name] 43))
  have hE := Lib.hid (fun W => Extend_any none [] 0 0 rfl p g W (SliceAt.mkNil W) (by simp))
  go_enter Try.func33, Try.ntmps33
  go_wp2_with (go_at_call 34; refine (hE.out _).mono ?_; rintro e w1 ⟨⟨q, c, out, is, HE, HO, rfl⟩, hg⟩)
  go_ret2
  exact ⟨⟨q, c, out, is, HE, Lib.hid (HO.out.base hb), rfl⟩, hb.trans' hg⟩
end Go.Proofs.Ytlbollmmomheoaa
