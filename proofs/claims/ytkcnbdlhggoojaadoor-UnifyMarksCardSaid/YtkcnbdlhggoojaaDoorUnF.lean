/-
  Unify: the walk. Conditions: as it says.
-/
import Derived.Test.YtkcnbdlhggoojaaDoorUnE
namespace Go.Proofs.YtkcnbdlhggoojaaDoor
open Go.RowKit

theorem AtomAt.belB {w w' : World} {b B : Nat} {a : AtomD} (h : AtomAt w b a) (hb : b < B) (hg : Below B w w') : AtomAt w' b a := (hg.block b hb).trans h
theorem uniL_eq {m : List BindD} {t u : TermD} {ts us : List TermD} (h : eqT (subT m t) (subT m u) = true) : uniL m (t :: ts) (u :: us) = uniL m ts us := by
  conv => lhs; unfold uniL
  rw [if_pos h]
theorem uniL_stop {m : List BindD} {t u v x : TermD} {ts us : List TermD} (h : eqT (subT m t) (subT m u) = false) (hd : (v, x) = dirD (subT m t) (subT m u)) (k : v.v = false) : uniL m (t :: ts) (u :: us) = none := by
  unfold uniL
  rw [if_neg (by rw [h]; decide), ← hd, if_pos k]
theorem uniL_bind {m o : List BindD} {t u v x : TermD} {ts us : List TermD} (h : eqT (subT m t) (subT m u) = false) (hd : (v, x) = dirD (subT m t) (subT m u)) (k : v.v = true) (hb : (o, 0) = bindD m v.name x) : uniL m (t :: ts) (u :: us) = uniL o ts us := by
  conv => lhs; unfold uniL
  rw [if_neg (by rw [h]; decide), ← hd, if_neg (by rw [k]; decide), if_pos (by rw [← hb]), ← hb]
theorem uniL_fail {m o : List BindD} {n : Int} {t u v x : TermD} {ts us : List TermD} (h : eqT (subT m t) (subT m u) = false) (hd : (v, x) = dirD (subT m t) (subT m u)) (k : v.v = true) (hb : (o, n) = bindD m v.name x) (hn : n ≠ 0) : uniL m (t :: ts) (u :: us) = none := by
  unfold uniL
  rw [if_neg (by rw [h]; decide), ← hd, if_neg (by rw [k]; decide), if_neg (by rw [← hb]; exact hn)]
theorem uniL_end {m : List BindD} {a b : AtomD} {k : Nat} (hk : cntI a.n ≤ k) : uniL m ((argsN a).drop k) ((argsN b).drop k) = some m := by
  have : (argsN a).drop k = [] := List.drop_of_length_le (by rw [argsN_len]; exact hk)
  rw [this]; simp [uniL]
theorem uniR_no {a b : AtomD} (h : alikeD a b = false) : uniR a b = ([], false) := by
  have : uniD a b = none := by unfold uniD; rw [if_neg (by rw [h]; decide)]
  unfold uniR
  rw [this]; rfl
theorem uniR_fail {a b : AtomD} (hp : alikeD a b = true) (h : none = uniL [] (argsN a) (argsN b)) : uniR a b = ([], false) := by
  have : uniD a b = none := by unfold uniD; rw [if_pos hp]; exact h.symm
  unfold uniR
  rw [this]; rfl
theorem uniR_done {a b : AtomD} {m : List BindD} (hp : alikeD a b = true) (h : some m = uniL [] (argsN a) (argsN b)) : uniR a b = (m, true) := by
  have : uniD a b = some m := by unfold uniD; rw [if_pos hp]; exact h.symm
  unfold uniR
  rw [this]; rfl

set_option maxRecDepth 20000 in
set_option maxHeartbeats 16000000 in
theorem Unify_any (a b : AtomD) (w : World) :
    Calls Tryd.prog 7 #[.agg #[.string a.says, .string a.pred, .int .i64 a.n, .bool a.t0.v, .string a.t0.name, .bool a.t1.v, .string a.t1.name, .bool a.t2.v, .string a.t2.name, .bool a.t3.v, .string a.t3.name], .agg #[.string b.says, .string b.pred, .int .i64 b.n, .bool b.t0.v, .string b.t0.name, .bool b.t1.v, .string b.t1.name, .bool b.t2.v, .string b.t2.name, .bool b.t3.v, .string b.t3.name]] w fun e w' => (∃ q c out is, RowKit.Hid ((out, is) = uniR a b) ∧ RowKit.Hid (BL w' q c out) ∧ e = .returned (.tuple #[.slice q out.length c, .bool is])) ∧ Bel w w' := by
  have hP := AtomAt.new w a
  have hG := AtomAt.new (w.alloc (.cells #[.string a.says, .string a.pred, .int .i64 a.n, .bool a.t0.v, .string a.t0.name, .bool a.t1.v, .string a.t1.name, .bool a.t2.v, .string a.t2.name, .bool a.t3.v, .string a.t3.name] 30)) b
  rw [show (w.alloc (.cells #[.string a.says, .string a.pred, .int .i64 a.n, .bool a.t0.v, .string a.t0.name, .bool a.t1.v, .string a.t1.name, .bool a.t2.v, .string a.t2.name, .bool a.t3.v, .string a.t3.name] 30)).heap.size = w.heap.size + 1 by simp] at hG
  have g2 := bel_alloc (w.alloc (.cells #[.string a.says, .string a.pred, .int .i64 a.n, .bool a.t0.v, .string a.t0.name, .bool a.t1.v, .string a.t1.name, .bool a.t2.v, .string a.t2.name, .bool a.t3.v, .string a.t3.name] 30)) (.cells #[.string b.says, .string b.pred, .int .i64 b.n, .bool b.t0.v, .string b.t0.name, .bool b.t1.v, .string b.t1.name, .bool b.t2.v, .string b.t2.name, .bool b.t3.v, .string b.t3.name] 30)
  have hP := hP.bel g2
  have hb := (bel_alloc w (.cells #[.string a.says, .string a.pred, .int .i64 a.n, .bool a.t0.v, .string a.t0.name, .bool a.t1.v, .string a.t1.name, .bool a.t2.v, .string a.t2.name, .bool a.t3.v, .string a.t3.name] 30)).trans' g2
  clear g2
  have hAl := Lib.hid (fun W => alike6_any a b W)
  cases hal : alikeD a b
  · rw [hal] at hAl
    have HE := Lib.hid (uniR_no hal)
    clear hal
    go_enter Tryd.func7, Tryd.ntmps7
    go_wp2_with (go_at_call 22; refine (hAl.out _).mono ?_; rintro e w1 ⟨rfl, hg⟩; have hb := hb.trans' hg; clear hg)
    go_ret2
    exact ⟨⟨none, 0, [], false, Lib.hid HE.out.symm, Lib.hid (SliceAt.mkNil _), rfl⟩, hb⟩
  rw [hal] at hAl
  obtain ⟨x1, x2, hpn, hn0, hn4⟩ := alike_iff.1 hal
  have HAL := Lib.hid hal
  obtain ⟨N, hN⟩ : ∃ N, N = cntI a.n := ⟨_, rfl⟩
  have hNn : (N : Int) = a.n := by rw [hN]; unfold cntI; omega
  have HN := Lib.hid hN
  have HNG : RowKit.Hid (N = cntI b.n) := Lib.hid (by rw [hN, hpn])
  have hN4 : N ≤ 4 := by omega
  have HNP := Lib.hid hNn
  clear hal x1 x2 hpn hn0 hn4 hNn hN
  go_enter Tryd.func7, Tryd.ntmps7
  go_wp2_with (go_at_call 22; refine (hAl.out _).mono ?_; rintro e w1 ⟨rfl, hg⟩; have hP := hP.bel hg; have hG := hG.bel hg; obtain ⟨_, _, pn, _⟩ := (hP.bel (bel_alloc w1 (.cells #[.slice none 0 0] 23))).cells; rw [← HNP.out] at pn; have hb := hb.trans' hg; clear hg)
  have hlw := hG.lt
  have hLA : LAt (w1.alloc (.cells #[.slice none 0 0] 23)) w1.heap.size none 0 0 := heap_alloc_new _ _
  have hP := hP.bel (bel_alloc w1 (.cells #[.slice none 0 0] 23))
  have hG := hG.bel (bel_alloc w1 (.cells #[.slice none 0 0] 23))
  have hb := hb.trans' (bel_alloc w1 (.cells #[.slice none 0 0] 23))
  obtain ⟨w2, hw2⟩ : ∃ w2, w2 = w1.alloc (.cells #[.slice none 0 0] 23) := ⟨_, rfl⟩
  obtain ⟨bl, hbl⟩ : ∃ bl, bl = w1.heap.size := ⟨_, rfl⟩
  rw [← hw2, ← hbl] at hLA
  rw [← hw2] at hP hG hb
  rw [← hbl] at hlw
  rw [← hw2, ← hbl]
  have H0 := Lib.hid (⟨hLA, hP, hG, hb⟩ : LAt w2 bl none 0 0 ∧ AtomAt w2 w.heap.size a ∧ AtomAt w2 (w.heap.size + 1) b ∧ Bel w w2)
  have hbl0 : w.heap.size < bl := by omega
  clear hP hG hb hLA hAl pn hw2 hbl
  go_loopw [18] (fun i wr => ∃ (k : Nat) (m : List BindD) (q : Option Addr) (c : Nat), k ≤ N ∧ i = .int .i64 k ∧ m.length ≤ k ∧ RowKit.Hid (LAt wr bl q m.length c ∧ BL wr q c m ∧ AtomAt wr w.heap.size a ∧ AtomAt wr (w.heap.size + 1) b ∧ Bel w wr ∧ uniL m ((argsN a).drop k) ((argsN b).drop k) = uniL [] (argsN a) (argsN b))) (fun i _ => 4 - (intOf i).toNat)
  case atStart => exact ⟨0, [], none, 0, Nat.zero_le _, rfl, Nat.le_refl _, Lib.hid ⟨H0.out.1, SliceAt.mkNil _, H0.out.2.1, H0.out.2.2.1, H0.out.2.2.2, rfl⟩⟩
  case round =>
    obtain ⟨k, m, q, c, hk, rfl, hml, H⟩ := hrel
    have HBX := Lib.hid H.out.1
    have HM := Lib.hid H.out.2.1
    have HP := Lib.hid H.out.2.2.1
    have HG := Lib.hid H.out.2.2.2.1
    have HW := Lib.hid H.out.2.2.2.2.1
    have HR := Lib.hid H.out.2.2.2.2.2
    clear H H0
    by_cases hlt : k < N
    · have hk4 : k < 4 := by omega
      have hk4i : (k : Int) < 4 := by omega
      have hk0 : (0 : Int) ≤ k := by omega
      have hkN : (k : Int) < (N : Int) := by omega
      obtain ⟨s, hs⟩ := args_get a k hk4
      obtain ⟨t, ht⟩ := args_get b k hk4
      obtain ⟨a1, a2⟩ := terms_at HP.out hs
      obtain ⟨b1, b2⟩ := terms_at HG.out ht
      have HS : RowKit.Hid (uniL m (s :: (argsN a).drop (k + 1)) (t :: (argsN b).drop (k + 1)) = uniL [] (argsN a) (argsN b)) := Lib.hid (by
        rw [← drop_at (by rw [← HN.out]; exact hlt) hs, ← drop_at (by rw [← HNG.out]; exact hlt) ht]
        exact HR.out)
      have c0 := HBX.out.cell
      have hbw := HBX.out.lt
      clear hs ht HR
      have hTA := Lib.hid (fun W (hg : Bel wr W) => Term_len q m m.length c rfl s W (HM.out.bel hg) (by omega))
      have hTB := Lib.hid (fun W (hg : Bel wr W) => Term_len q m m.length c rfl t W (HM.out.bel hg) (by omega))
      obtain ⟨sv, sn⟩ := s
      obtain ⟨tv, tn⟩ := t
      simp only at a1 a2 b1 b2
      have e1 : wr.heap.size ≠ w.heap.size := by omega
      have e2 : wr.heap.size ≠ w.heap.size + 1 := by omega
      have e3 : wr.heap.size ≠ bl := by omega
      have e4 : wr.heap.size + 1 ≠ w.heap.size := by omega
      have e5 : wr.heap.size + 1 ≠ w.heap.size + 1 := by omega
      have e6 : wr.heap.size + 1 ≠ bl := by omega
      have e7 : w.heap.size < wr.heap.size := by omega
      have e8 : w.heap.size + 1 < wr.heap.size := by omega
      have e9 : w.heap.size ≤ wr.heap.size := by omega
      have e10 : bl ≠ w.heap.size := by omega
      have e11 : bl ≠ w.heap.size + 1 := by omega
      go_upto_region 8 with fail
      go_cut [9, 10] (fun s9 s10 wx => ∃ (b9 b10 : Nat) (x y : TermD), s9 = .pointer (some ⟨b9, 0, none⟩) ∧ s10 = .pointer (some ⟨b10, 0, none⟩) ∧ RowKit.Hid (x = subT m ⟨sv, sn⟩ ∧ y = subT m ⟨tv, tn⟩ ∧ TermAt wx b9 x ∧ TermAt wx b10 y ∧ Bel wr wx))
      case first =>
        have hd : Bel wr wr.drew := bel_drew' (Below.refl _ _)
        have hd1 := hd.trans' (bel_alloc wr.drew (.cells #[.bool false, .string ⟨#[]⟩] 27))
        have hd2 := hd1.trans' (bel_alloc _ (.cells #[.bool false, .string ⟨#[]⟩] 27))
        have hz0 : TermAt (wr.drew.alloc (.cells #[.bool false, .string ⟨#[]⟩] 27)) wr.heap.size zeroT := TermAt.new wr.drew zeroT
        have hy0 : TermAt ((wr.drew.alloc (.cells #[.bool false, .string ⟨#[]⟩] 27)).alloc (.cells #[.bool false, .string ⟨#[]⟩] 27)) (wr.heap.size + 1) zeroT := by
          have := TermAt.new (wr.drew.alloc (.cells #[.bool false, .string ⟨#[]⟩] 27)) zeroT
          rwa [show (wr.drew.alloc (.cells #[.bool false, .string ⟨#[]⟩] 27)).heap.size = wr.heap.size + 1 by simp] at this
        have HC0 := Lib.hid (And.intro c0 (And.intro a1 (And.intro a2 (And.intro b1 b2))))
        clear HS
        go_region_held3 (fun w' => w'.cell? ⟨bl, 0, none⟩ = some (.slice q m.length c) ∧ w'.cell? ⟨w.heap.size, 3 + k * 2, none⟩ = some (.bool sv) ∧ w'.cell? ⟨w.heap.size, 3 + k * 2 + 1, none⟩ = some (.string sn) ∧ w'.cell? ⟨w.heap.size + 1, 3 + k * 2, none⟩ = some (.bool tv) ∧ w'.cell? ⟨w.heap.size + 1, 3 + k * 2 + 1, none⟩ = some (.string tn)) (first | go_keep | trivial)
          (first | (go_at_call 25; refine (hTA.out _ hd).mono ?_; rintro e w6 ⟨⟨u, HU, rfl⟩, hg⟩; have H6 := Lib.hid (hd.trans' hg); have c0 := cell_bel HC0.out.1 H6.out; have a1 := cell_bel HC0.out.2.1 H6.out; have a2 := cell_bel HC0.out.2.2.1 H6.out; have b1 := cell_bel HC0.out.2.2.2.1 H6.out; have b2 := cell_bel HC0.out.2.2.2.2 H6.out; have sz := H6.out.size; have n0 : w6.heap.size ≠ w.heap.size := (by omega); have n1 : w6.heap.size ≠ w.heap.size + 1 := (by omega); have n2 : w6.heap.size ≠ bl := (by omega); have n3 : w6.heap.size + 1 ≠ w.heap.size := (by omega); have n4 : w6.heap.size + 1 ≠ w.heap.size + 1 := (by omega); have n5 : w6.heap.size + 1 ≠ bl := (by omega); have n6 : w.heap.size < w6.heap.size := (by omega); have n7 : w.heap.size + 1 < w6.heap.size := (by omega); have n8 : w.heap.size ≤ w6.heap.size := (by omega); have n9 : wr.heap.size ≤ w6.heap.size := (by omega); have k0 := H6.out; have k1 := k0.trans' (bel_alloc w6 (.cells #[.bool false, .string ⟨#[]⟩] 27)); have k2 := k1.trans' (bel_alloc _ (.cells #[.bool false, .string ⟨#[]⟩] 27)); clear hg) | (go_at_call 25; refine (hTA.out _ hd1).mono ?_; rintro e w6 ⟨⟨u, HU, rfl⟩, hg⟩; have H6 := Lib.hid (hd1.trans' hg); have c0 := cell_bel HC0.out.1 H6.out; have a1 := cell_bel HC0.out.2.1 H6.out; have a2 := cell_bel HC0.out.2.2.1 H6.out; have b1 := cell_bel HC0.out.2.2.2.1 H6.out; have b2 := cell_bel HC0.out.2.2.2.2 H6.out; have sz := H6.out.size; have n0 : w6.heap.size ≠ w.heap.size := (by omega); have n1 : w6.heap.size ≠ w.heap.size + 1 := (by omega); have n2 : w6.heap.size ≠ bl := (by omega); have n3 : w6.heap.size + 1 ≠ w.heap.size := (by omega); have n4 : w6.heap.size + 1 ≠ w.heap.size + 1 := (by omega); have n5 : w6.heap.size + 1 ≠ bl := (by omega); have n6 : w.heap.size < w6.heap.size := (by omega); have n7 : w.heap.size + 1 < w6.heap.size := (by omega); have n8 : w.heap.size ≤ w6.heap.size := (by omega); have n9 : wr.heap.size ≤ w6.heap.size := (by omega); have hz6 := hz0.bel hg; have z1 := hz6.cells.1; have z2 := hz6.cells.2; have z3 := hz6.frozen 0; have z4 := hz6.frozen 1; have z5 := hz6.lt; have z6 : wr.heap.size ≤ wr.heap.size := (by omega); have zn : wr.heap.size ≠ w6.heap.size := (by omega); have zn1 : wr.heap.size ≠ w6.heap.size + 1 := (by omega); have zn2 : w6.heap.size ≠ wr.heap.size := (by omega); have k0 := H6.out; have k1 := k0.trans' (bel_alloc w6 (.cells #[.bool false, .string ⟨#[]⟩] 27)); have k2 := k1.trans' (bel_alloc _ (.cells #[.bool false, .string ⟨#[]⟩] 27)); clear hg) | (go_at_call 25; refine (hTA.out _ hd2).mono ?_; rintro e w6 ⟨⟨u, HU, rfl⟩, hg⟩; have H6 := Lib.hid (hd2.trans' hg); have c0 := cell_bel HC0.out.1 H6.out; have a1 := cell_bel HC0.out.2.1 H6.out; have a2 := cell_bel HC0.out.2.2.1 H6.out; have b1 := cell_bel HC0.out.2.2.2.1 H6.out; have b2 := cell_bel HC0.out.2.2.2.2 H6.out; have sz := H6.out.size; have n0 : w6.heap.size ≠ w.heap.size := (by omega); have n1 : w6.heap.size ≠ w.heap.size + 1 := (by omega); have n2 : w6.heap.size ≠ bl := (by omega); have n3 : w6.heap.size + 1 ≠ w.heap.size := (by omega); have n4 : w6.heap.size + 1 ≠ w.heap.size + 1 := (by omega); have n5 : w6.heap.size + 1 ≠ bl := (by omega); have n6 : w.heap.size < w6.heap.size := (by omega); have n7 : w.heap.size + 1 < w6.heap.size := (by omega); have n8 : w.heap.size ≤ w6.heap.size := (by omega); have n9 : wr.heap.size ≤ w6.heap.size := (by omega); have hz6 := (hz0.bel (bel_alloc _ (.cells #[.bool false, .string ⟨#[]⟩] 27))).bel hg; have hy6 := hy0.bel hg; have z1 := hz6.cells.1; have z2 := hz6.cells.2; have z3 := hz6.frozen 0; have z4 := hz6.frozen 1; have z5 := hz6.lt; have z6 : wr.heap.size ≤ wr.heap.size := (by omega); have y1 := hy6.cells.1; have y2 := hy6.cells.2; have y3 := hy6.frozen 0; have y4 := hy6.frozen 1; have y5 := hy6.lt; have y6 : wr.heap.size ≤ wr.heap.size + 1 := (by omega); have k0 := H6.out; have k1 := k0.trans' (bel_alloc w6 (.cells #[.bool false, .string ⟨#[]⟩] 27)); have k2 := k1.trans' (bel_alloc _ (.cells #[.bool false, .string ⟨#[]⟩] 27)); clear hg) | (go_at_call 25; refine (hTB.out _ k0).mono ?_; rintro e w7 ⟨⟨v, HV, rfl⟩, hg⟩; have hz7 := hz6.bel hg; have z7 := hz7.cells.1; have z8 := hz7.cells.2; have z9 := hz7.frozen 0; have z10 := hz7.frozen 1; have z11 := hz7.lt; have zle : wr.heap.size ≤ wr.heap.size := (by omega); have hy7 := hy6.bel hg; have y7 := hy7.cells.1; have y8 := hy7.cells.2; have y9 := hy7.frozen 0; have y10 := hy7.frozen 1; have y11 := hy7.lt; have yle : wr.heap.size ≤ wr.heap.size + 1 := (by omega); have yz : wr.heap.size + 1 ≠ wr.heap.size := (by omega); have H7 := Lib.hid (k0.trans' hg); have c0 := cell_bel HC0.out.1 H7.out; have a1 := cell_bel HC0.out.2.1 H7.out; have a2 := cell_bel HC0.out.2.2.1 H7.out; have b1 := cell_bel HC0.out.2.2.2.1 H7.out; have b2 := cell_bel HC0.out.2.2.2.2 H7.out; have sz := H7.out.size; have m0 : w7.heap.size ≠ w.heap.size := (by omega); have m1 : w7.heap.size ≠ w.heap.size + 1 := (by omega); have m2 : w7.heap.size ≠ bl := (by omega); have m3 : w7.heap.size + 1 ≠ w.heap.size := (by omega); have m4 : w7.heap.size + 1 ≠ w.heap.size + 1 := (by omega); have m5 : w7.heap.size + 1 ≠ bl := (by omega); have m6 : w.heap.size < w7.heap.size := (by omega); have m7 : w.heap.size + 1 < w7.heap.size := (by omega); have m8 : w.heap.size ≤ w7.heap.size := (by omega); have m9 : wr.heap.size ≤ w7.heap.size := (by omega); clear hg) | (go_at_call 25; refine (hTB.out _ k0).mono ?_; rintro e w7 ⟨⟨v, HV, rfl⟩, hg⟩; have hz7 := hz6.bel hg; have z7 := hz7.cells.1; have z8 := hz7.cells.2; have z9 := hz7.frozen 0; have z10 := hz7.frozen 1; have z11 := hz7.lt; have zle : wr.heap.size ≤ wr.heap.size := (by omega); have H7 := Lib.hid (k0.trans' hg); have c0 := cell_bel HC0.out.1 H7.out; have a1 := cell_bel HC0.out.2.1 H7.out; have a2 := cell_bel HC0.out.2.2.1 H7.out; have b1 := cell_bel HC0.out.2.2.2.1 H7.out; have b2 := cell_bel HC0.out.2.2.2.2 H7.out; have sz := H7.out.size; have m0 : w7.heap.size ≠ w.heap.size := (by omega); have m1 : w7.heap.size ≠ w.heap.size + 1 := (by omega); have m2 : w7.heap.size ≠ bl := (by omega); have m3 : w7.heap.size + 1 ≠ w.heap.size := (by omega); have m4 : w7.heap.size + 1 ≠ w.heap.size + 1 := (by omega); have m5 : w7.heap.size + 1 ≠ bl := (by omega); have m6 : w.heap.size < w7.heap.size := (by omega); have m7 : w.heap.size + 1 < w7.heap.size := (by omega); have m8 : w.heap.size ≤ w7.heap.size := (by omega); have m9 : wr.heap.size ≤ w7.heap.size := (by omega); clear hg) | (go_at_call 25; refine (hTB.out _ k1).mono ?_; rintro e w7 ⟨⟨v, HV, rfl⟩, hg⟩; have hz7 := (hz6.bel (bel_alloc w6 (.cells #[.bool false, .string ⟨#[]⟩] 27))).bel hg; have z7 := hz7.cells.1; have z8 := hz7.cells.2; have z9 := hz7.frozen 0; have z10 := hz7.frozen 1; have z11 := hz7.lt; have zle : wr.heap.size ≤ wr.heap.size := (by omega); have hy7 := (TermAt.new w6 zeroT).bel hg; have y7 := hy7.cells.1; have y8 := hy7.cells.2; have y9 := hy7.frozen 0; have y10 := hy7.frozen 1; have y11 := hy7.lt; have yle : wr.heap.size ≤ w6.heap.size := (by omega); have yz : w6.heap.size ≠ wr.heap.size := (by omega); have zy : wr.heap.size ≠ w6.heap.size := (by omega); have H7 := Lib.hid (k1.trans' hg); have c0 := cell_bel HC0.out.1 H7.out; have a1 := cell_bel HC0.out.2.1 H7.out; have a2 := cell_bel HC0.out.2.2.1 H7.out; have b1 := cell_bel HC0.out.2.2.2.1 H7.out; have b2 := cell_bel HC0.out.2.2.2.2 H7.out; have sz := H7.out.size; have m0 : w7.heap.size ≠ w.heap.size := (by omega); have m1 : w7.heap.size ≠ w.heap.size + 1 := (by omega); have m2 : w7.heap.size ≠ bl := (by omega); have m3 : w7.heap.size + 1 ≠ w.heap.size := (by omega); have m4 : w7.heap.size + 1 ≠ w.heap.size + 1 := (by omega); have m5 : w7.heap.size + 1 ≠ bl := (by omega); have m6 : w.heap.size < w7.heap.size := (by omega); have m7 : w.heap.size + 1 < w7.heap.size := (by omega); have m8 : w.heap.size ≤ w7.heap.size := (by omega); have m9 : wr.heap.size ≤ w7.heap.size := (by omega); clear hg) | (go_at_call 25; refine (hTB.out _ k0).mono ?_; rintro e w7 ⟨⟨v, HV, rfl⟩, hg⟩; have H7 := Lib.hid (k0.trans' hg); have c0 := cell_bel HC0.out.1 H7.out; have a1 := cell_bel HC0.out.2.1 H7.out; have a2 := cell_bel HC0.out.2.2.1 H7.out; have b1 := cell_bel HC0.out.2.2.2.1 H7.out; have b2 := cell_bel HC0.out.2.2.2.2 H7.out; have sz := H7.out.size; have m0 : w7.heap.size ≠ w.heap.size := (by omega); have m1 : w7.heap.size ≠ w.heap.size + 1 := (by omega); have m2 : w7.heap.size ≠ bl := (by omega); have m3 : w7.heap.size + 1 ≠ w.heap.size := (by omega); have m4 : w7.heap.size + 1 ≠ w.heap.size + 1 := (by omega); have m5 : w7.heap.size + 1 ≠ bl := (by omega); have m6 : w.heap.size < w7.heap.size := (by omega); have m7 : w.heap.size + 1 < w7.heap.size := (by omega); have m8 : w.heap.size ≤ w7.heap.size := (by omega); have m9 : wr.heap.size ≤ w7.heap.size := (by omega); clear hg) | (go_at_call 25; refine (hTB.out _ k1).mono ?_; rintro e w7 ⟨⟨v, HV, rfl⟩, hg⟩; have hz7 := (TermAt.new w6 zeroT).bel hg; have z7 := hz7.cells.1; have z8 := hz7.cells.2; have z9 := hz7.frozen 0; have z10 := hz7.frozen 1; have z11 := hz7.lt; have zle : wr.heap.size ≤ w6.heap.size := (by omega); have H7 := Lib.hid (k1.trans' hg); have c0 := cell_bel HC0.out.1 H7.out; have a1 := cell_bel HC0.out.2.1 H7.out; have a2 := cell_bel HC0.out.2.2.1 H7.out; have b1 := cell_bel HC0.out.2.2.2.1 H7.out; have b2 := cell_bel HC0.out.2.2.2.2 H7.out; have sz := H7.out.size; have m0 : w7.heap.size ≠ w.heap.size := (by omega); have m1 : w7.heap.size ≠ w.heap.size + 1 := (by omega); have m2 : w7.heap.size ≠ bl := (by omega); have m3 : w7.heap.size + 1 ≠ w.heap.size := (by omega); have m4 : w7.heap.size + 1 ≠ w.heap.size + 1 := (by omega); have m5 : w7.heap.size + 1 ≠ bl := (by omega); have m6 : w.heap.size < w7.heap.size := (by omega); have m7 : w.heap.size + 1 < w7.heap.size := (by omega); have m8 : w.heap.size ≤ w7.heap.size := (by omega); have m9 : wr.heap.size ≤ w7.heap.size := (by omega); clear hg) | (go_at_call 25; refine (hTB.out _ k2).mono ?_; rintro e w7 ⟨⟨v, HV, rfl⟩, hg⟩; have hz7 := ((TermAt.new w6 zeroT).bel (bel_alloc _ (.cells #[.bool false, .string ⟨#[]⟩] 27))).bel hg; have z7 := hz7.cells.1; have z8 := hz7.cells.2; have z9 := hz7.frozen 0; have z10 := hz7.frozen 1; have z11 := hz7.lt; have zle : wr.heap.size ≤ w6.heap.size := (by omega); have hy7 := (show TermAt ((w6.alloc (.cells #[.bool false, .string ⟨#[]⟩] 27)).alloc (.cells #[.bool false, .string ⟨#[]⟩] 27)) (w6.heap.size + 1) zeroT from (by have := TermAt.new (w6.alloc (.cells #[.bool false, .string ⟨#[]⟩] 27)) zeroT; rwa [show (w6.alloc (.cells #[.bool false, .string ⟨#[]⟩] 27)).heap.size = w6.heap.size + 1 by simp] at this)).bel hg; have y7 := hy7.cells.1; have y8 := hy7.cells.2; have y9 := hy7.frozen 0; have y10 := hy7.frozen 1; have y11 := hy7.lt; have yle : wr.heap.size ≤ w6.heap.size + 1 := (by omega); have yz : w6.heap.size + 1 ≠ w6.heap.size := (by omega); have H7 := Lib.hid (k2.trans' hg); have c0 := cell_bel HC0.out.1 H7.out; have a1 := cell_bel HC0.out.2.1 H7.out; have a2 := cell_bel HC0.out.2.2.1 H7.out; have b1 := cell_bel HC0.out.2.2.2.1 H7.out; have b2 := cell_bel HC0.out.2.2.2.2 H7.out; have sz := H7.out.size; have m0 : w7.heap.size ≠ w.heap.size := (by omega); have m1 : w7.heap.size ≠ w.heap.size + 1 := (by omega); have m2 : w7.heap.size ≠ bl := (by omega); have m3 : w7.heap.size + 1 ≠ w.heap.size := (by omega); have m4 : w7.heap.size + 1 ≠ w.heap.size + 1 := (by omega); have m5 : w7.heap.size + 1 ≠ bl := (by omega); have m6 : w.heap.size < w7.heap.size := (by omega); have m7 : w.heap.size + 1 < w7.heap.size := (by omega); have m8 : w.heap.size ≤ w7.heap.size := (by omega); have m9 : wr.heap.size ≤ w7.heap.size := (by omega); clear hg))
        all_goals (go_wp2_with fail; go_meet)
        all_goals first
          | exact ⟨_, _, u, v, rfl, rfl, Lib.hid ⟨HU.out, HV.out, (set_set H7.out hz7 hy7 zle yle yz u v).1, (set_set H7.out hz7 hy7 zle yle yz u v).2.1, (set_set H7.out hz7 hy7 zle yle yz u v).2.2⟩⟩
          | exact ⟨_, _, u, v, rfl, rfl, Lib.hid ⟨HU.out, HV.out, (set_set H7.out hy7 hz7 yle zle yz.symm u v).1, (set_set H7.out hy7 hz7 yle zle yz.symm u v).2.1, (set_set H7.out hy7 hz7 yle zle yz.symm u v).2.2⟩⟩
          | exact ⟨_, _, u, v, rfl, rfl, Lib.hid ⟨HU.out, HV.out, (set_new H7.out hz7 zle u v).1, (set_new H7.out hz7 zle u v).2.1, (set_new H7.out hz7 zle u v).2.2⟩⟩
          | exact ⟨_, _, u, v, rfl, rfl, Lib.hid ⟨HU.out, HV.out, (set_new H7.out hz7 zle v u).2.1, (set_new H7.out hz7 zle v u).1, (set_new H7.out hz7 zle v u).2.2⟩⟩
          | exact ⟨_, _, u, v, rfl, rfl, Lib.hid ⟨HU.out, HV.out, (two_new H7.out u v).1, (two_new H7.out u v).2.1, (two_new H7.out u v).2.2⟩⟩
          | exact ⟨_, _, u, v, rfl, rfl, Lib.hid ⟨HU.out, HV.out, (two_new H7.out v u).2.1, (two_new H7.out v u).1, (two_new H7.out v u).2.2⟩⟩
      obtain ⟨b9, b10, x, y, rfl, rfl, HC⟩ := hcut
      have HX := Lib.hid HC.out.1
      have HY := Lib.hid HC.out.2.1
      obtain ⟨x1, x2⟩ := HC.out.2.2.1.cells
      obtain ⟨y1, y2⟩ := HC.out.2.2.2.1.cells
      have HBc := Lib.hid HC.out.2.2.2.2
      have HBXc := Lib.hid (HBX.out.bel HBc.out)
      have HMc := Lib.hid (HM.out.bel HBc.out)
      have HPc := Lib.hid (HP.out.bel HBc.out)
      have HGc := Lib.hid (HG.out.bel HBc.out)
      have HWc := Lib.hid (HW.out.trans' HBc.out)
      obtain ⟨xv, xn⟩ := x
      obtain ⟨yv, yn⟩ := y
      simp only at x1 x2 y1 y2
      clear HC HBX HM HP HG HW hTA hTB a1 a2 b1 b2 c0 e1 e2 e3 e4 e5 e6 e7 e8 e9 e10 e11 hbw
      have hq := neq_term xv yv xn yn
      cases hf : eqT ⟨xv, xn⟩ ⟨yv, yn⟩ <;> rw [hf] at hq
      · have hDi := Lib.hid (fun W => directed_any ⟨xv, xn⟩ ⟨yv, yn⟩ W)
        have HF2 : RowKit.Hid (eqT (subT m ⟨sv, sn⟩) (subT m ⟨tv, tn⟩) = false) := Lib.hid (by rw [← HX.out, ← HY.out]; exact hf)
        clear hf
        go_wp2_with (fail)
        refine (hDi.out _).mono ?_
        rintro e w5 ⟨⟨v, to1, HD, rfl⟩, hg⟩
        have HD2 : RowKit.Hid ((v, to1) = dirD (subT m ⟨sv, sn⟩) (subT m ⟨tv, tn⟩)) := Lib.hid (by rw [← HX.out, ← HY.out]; exact HD.out)
        have HBX5 := Lib.hid (HBXc.out.bel hg)
        have HM5 := Lib.hid (HMc.out.bel hg)
        have HP5 := Lib.hid (HPc.out.bel hg)
        have HG5 := Lib.hid (HGc.out.bel hg)
        have HW5 := Lib.hid (HWc.out.trans' hg)
        have hBd := Lib.hid (bindU_any bl q m m.length c rfl v to1 w5 HBX5.out HM5.out (by omega))
        clear hg HBXc HMc HPc HGc HWc x1 x2 y1 y2 HBc
        go_wp2_with (fail)
        refine hBd.out.mono ?_
        rintro e w7 (⟨hv, rfl, hg⟩ | ⟨hv, q7, c7, out, n7, HE7, rfl, H7⟩)
        · have HF := Lib.hid (uniR_fail HAL.out ((uniL_stop HF2.out HD2.out hv.out).symm.trans HS.out))
          have HB7 := Lib.hid (HW5.out.trans' hg.out)
          clear hg hv
          go_wp2
          go_ret2
          exact ⟨⟨none, 0, [], false, Lib.hid HF.out.symm, Lib.hid (SliceAt.mkNil _), rfl⟩, HB7.out⟩
        · have HB7 := Lib.hid (Below.trans HW5.out (H7.out.2.2.mono (by omega)))
          by_cases hz7 : n7 = 0
          · have HLn := Lib.hid (bindD_len m v.name to1)
            have hol : out.length ≤ m.length + 1 := by
              have e7 : out.length = (bindD m v.name to1).1.length := congrArg (fun x => x.1.length) HE7.out
              rw [e7]; exact HLn.out
            have HX7 := Lib.hid ((uniL_bind HF2.out HD2.out hv.out (by rw [← hz7]; exact HE7.out)).symm.trans HS.out)
            have HP7 := Lib.hid (HP5.out.belB (by omega) H7.out.2.2)
            have HG7 := Lib.hid (HG5.out.belB (by omega) H7.out.2.2)
            subst hz7
            clear hv HBX5 HM5 HP5 HG5 HW5 hBd
            go_wp2
            go_roundw
            case rel => exact ⟨k + 1, out, q7, c7, by omega, by go_num, by omega, Lib.hid ⟨H7.out.1, H7.out.2.1, HP7.out, HG7.out, HB7.out, HX7.out⟩⟩
            case measure => simp [intOf]; omega
          · have HF := Lib.hid (uniR_fail HAL.out ((uniL_fail HF2.out HD2.out hv.out HE7.out hz7).symm.trans HS.out))
            have hz8 : (n7 == 0) = false := by simpa using hz7
            clear hv HBX5 HM5 HP5 HG5 HW5 hBd
            go_wp2
            go_ret2
            exact ⟨⟨none, 0, [], false, Lib.hid HF.out.symm, Lib.hid (SliceAt.mkNil _), rfl⟩, HB7.out⟩
      · have HX7 := Lib.hid ((uniL_eq (by rw [← HX.out, ← HY.out]; exact hf)).symm.trans HS.out)
        clear hf
        go_wp2
        go_roundw
        case rel => exact ⟨k + 1, m, q, c, by omega, by go_num, by omega, Lib.hid ⟨HBXc.out, HMc.out, HPc.out, HGc.out, HWc.out, HX7.out⟩⟩
        case measure => simp [intOf]; omega
    · have hkN : k = N := by omega
      have hkn : ¬ (k : Int) < (N : Int) := by omega
      have HF := Lib.hid (uniR_done HAL.out ((uniL_end (by rw [← HN.out]; omega)).symm.trans HR.out))
      have c0 := HBX.out.cell
      clear hkN
      go_wp2
      go_ret2
      first | exact ⟨⟨q, c, m, true, Lib.hid HF.out.symm, HM, rfl⟩, HW.out⟩ | exact ⟨⟨q, c, m, .inr ⟨Lib.hid HF.out.symm, HM, rfl⟩⟩, HW.out⟩
end Go.Proofs.YtkcnbdlhggoojaaDoor
