/-
  The reference's walks: what a variable is bound to, a term and an atom under bindings. Conditions: as each says. The reference's check of bindings. Conditions: as it says. The reference's list with one more binding. Conditions: as it says. The reference's binding of one more variable. Conditions: as it says.
-/
import Derived.Test.YtkcnbdlhggoojaaSgD
namespace Go.Proofs.Ytkcnbdlhggoojaa
open Go.RowKit

theorem getB_take_none {l : List BindD} {k : Nat} {v : ByteArray} (hk : k < l.length) (h : getB (l.take k) v = none) (h2 : l[k].v ≠ v) : getB (l.take (k + 1)) v = none := by
  rw [List.take_add_one, List.getElem?_eq_getElem hk, getB_append, h]
  simp [getB, h2]
theorem getB_take_some {l : List BindD} {k : Nat} {v : ByteArray} (hk : k < l.length) (h : getB (l.take k) v = none) (h2 : l[k].v = v) : getB l v = some l[k].t := by
  conv => lhs; rw [← List.take_append_drop k l]
  rw [getB_append, h, List.drop_eq_getElem_cons hk]
  simp [getB, h2]
set_option maxHeartbeats 2000000 in
theorem rGet_any (A : Option Addr) (l : List BindD) (n ca : Nat) (hn : l.length = n) (v : ByteArray) (w : World) (hL : BL w A ca l) (hl : l.length ≤ 1000000) :
    Calls Try.prog 25 #[.slice A n ca, .string v] w fun e w' => (∃ t is, RowKit.Hid ((t, is) = getR l v) ∧ e = .returned (.tuple #[.agg #[.bool t.v, .string t.name], .bool is])) ∧ Bel w w' := by
  subst hn
  have HL := Lib.hid hL
  clear hL
  have hZ : TermAt (w.alloc (.cells #[.bool false, .string ⟨#[]⟩] 23)) w.heap.size zeroT := TermAt.new w zeroT
  have hb := bel_alloc w (.cells #[.bool false, .string ⟨#[]⟩] 23)
  have H0 := Lib.hid (And.intro hZ hb)
  clear hZ hb
  go_enter Try.func25, Try.ntmps25
  go_wp2
  go_loopw [6] (fun i wr => ∃ k : Nat, k ≤ l.length ∧ i = .int .i64 k ∧ RowKit.Hid (TermAt wr w.heap.size zeroT ∧ Bel w wr) ∧ RowKit.Hid (getB (l.take k) v = none)) (fun i _ => l.length - (intOf i).toNat)
  case atStart => exact ⟨0, Nat.zero_le _, rfl, H0, Lib.hid rfl⟩
  case round =>
    obtain ⟨k, hk, rfl, H, HN⟩ := hrel
    clear H0
    have hZ := H.out.1
    have hb := H.out.2
    by_cases hlt : k < l.length
    · obtain ⟨b, o, rfl, hbb, hc⟩ := bl_get (HL.out.bel hb) (by omega)
      obtain ⟨c1, c2, c3⟩ := hc k hlt
      have hq : (0 : Int) ≤ k := by omega
      have hq2 : (k : Int) < l.length := by omega
      clear hc hbb
      by_cases e : l[k].v = v
      · have HR := Lib.hid (getR_some (getB_take_some hlt HN.out e))
        have he := toList_eq e
        clear e
        generalize l[k].t = t at c2 c3 HR
        generalize l[k].v = y at c1 he
        go_wp2_with ((with_reducible refine wpList_store_term ?_ (.tmp 4) (.tmp 24) ?_ w.heap.size t ?_ ?_ hZ ?_); rfl; rfl; rfl; rfl; intro w3 hR hb3 _; have hb := hb.trans hb3; clear hb3)
        try simp only [Exit.inBlock, Exit.then]
        refine bodyPost_ret (results_term2 rfl _ _ _ _ rfl hR) rfl ?_
        exact ⟨⟨_, _, Lib.hid HR.out.symm, rfl⟩, hb⟩
      · have HN2 := Lib.hid (getB_take_none hlt HN.out e)
        have he := toList_ne e
        clear e
        generalize l[k].t = t at c2 c3
        generalize l[k].v = y at c1 he
        go_wp2
        go_roundw
        case rel => exact ⟨k + 1, by omega, by go_num, H, HN2⟩
        case measure => simp [intOf]; omega
    · obtain rfl : k = l.length := by omega
      have HR : RowKit.Hid (getR l v = (zeroT, false)) := Lib.hid (getR_none (by have := HN.out; rwa [List.take_length] at this))
      go_wp2_with ((with_reducible refine wpList_store_term ?_ (.tmp 4) (.tmp 25) ?_ w.heap.size zeroT ?_ ?_ hZ ?_); rfl; rfl; rfl; rfl; intro w3 hR hb3 _; have hb := hb.trans hb3; clear hb3)
      try simp only [Exit.inBlock, Exit.then]
      refine bodyPost_ret (results_term2 rfl _ _ _ _ rfl hR) rfl ?_
      exact ⟨⟨_, _, Lib.hid HR.out.symm, rfl⟩, hb⟩

set_option maxHeartbeats 2000000 in
theorem rTerm4_any (A : Option Addr) (l : List BindD) (n ca : Nat) (hn : l.length = n) (t : TermD) (w : World) (hL : BL w A ca l) (hl : l.length ≤ 1000000) :
    Calls Try.prog 27 #[.slice A n ca, .agg #[.bool t.v, .string t.name]] w fun e w' => (∃ u, RowKit.Hid (u = subT l t) ∧ e = .returned (.agg #[.bool u.v, .string u.name])) ∧ Bel w w' := by
  obtain ⟨tv, s⟩ := t
  have g1 := bel_alloc w (.cells #[.bool tv, .string s] 23)
  have hT0 : TermAt (w.alloc (.cells #[.bool tv, .string s] 23)) w.heap.size ⟨tv, s⟩ := TermAt.new w ⟨tv, s⟩
  have g2 := bel_alloc (w.alloc (.cells #[.bool tv, .string s] 23)) (.cells #[.bool false, .string ⟨#[]⟩] 23)
  have hT := hT0.bel g2
  have hZ : TermAt ((w.alloc (.cells #[.bool tv, .string s] 23)).alloc (.cells #[.bool false, .string ⟨#[]⟩] 23)) (w.heap.size + 1) zeroT := by
    have := TermAt.new (w.alloc (.cells #[.bool tv, .string s] 23)) zeroT
    rwa [show (w.alloc (.cells #[.bool tv, .string s] 23)).heap.size = w.heap.size + 1 by simp] at this
  have hb := g1.trans' g2
  have hF := Lib.hid (rGet_any A l n ca hn s _ (hL.bel hb) hl)
  clear hT0 g1 g2 hL hn
  have hlt : w.heap.size < w.heap.size + 1 := by omega
  have d0 : World.cell? _ _ = some (.bool tv) := hT.cells.1
  have d1 : World.cell? _ _ = some (.string s) := hT.cells.2
  cases tv
  · have HR := Lib.hid (sub_const (l := l) (t := ⟨false, s⟩) rfl)
    clear hF
    go_enter Try.func27, Try.ntmps27
    go_wp2_with ((with_reducible refine wpList_store_term ?_ (.tmp 4) (.tmp 18) ?_ (w.heap.size + 1) ⟨false, s⟩ ?_ ?_ hZ ?_); rfl; rfl; rfl; rfl; intro w3 hR hb3 _; have hb := hb.trans (hb3.mono (Nat.le_succ _)); clear hb3)
    try simp only [Exit.inBlock, Exit.then]
    refine bodyPost_ret (results_term rfl _ _ _ _ rfl hR) rfl ?_
    exact ⟨⟨_, Lib.hid HR.out.symm, rfl⟩, hb⟩
  · go_enter Try.func27, Try.ntmps27
    go_wp2_with (fail)
    refine hF.out.mono ?_
    rintro e w1 ⟨⟨u, is, HE, rfl⟩, hg⟩
    have hZ := hZ.bel hg
    have hT := hT.bel hg
    have hb := hb.trans' hg
    have hU := TermAt.new w1 u
    have g3 := bel_alloc w1 (.cells #[.bool u.v, .string u.name] 23)
    have hZ := hZ.bel g3
    have hT := hT.bel g3
    have hb := hb.trans' g3
    clear g3 hg d0 d1
    have d0 : World.cell? _ _ = some (.bool true) := hT.cells.1
    have d1 : World.cell? _ _ = some (.string s) := hT.cells.2
    obtain ⟨f0, f1⟩ := hU.cells
    cases is
    · have HR := Lib.hid (sub_miss (t := ⟨true, s⟩) HE.out.symm)
      go_wp2_with ((with_reducible refine wpList_store_term ?_ (.tmp 4) (.tmp 18) ?_ (w.heap.size + 1) ⟨true, s⟩ ?_ ?_ hZ ?_); rfl; rfl; rfl; rfl; intro w3 hR hb3 _; have hb := hb.trans (hb3.mono (Nat.le_succ _)); clear hb3)
      try simp only [Exit.inBlock, Exit.then]
      refine bodyPost_ret (results_term rfl _ _ _ _ rfl hR) rfl ?_
      exact ⟨⟨_, Lib.hid HR.out.symm, rfl⟩, hb⟩
    · have HR := Lib.hid (sub_hit (t := ⟨true, s⟩) rfl HE.out.symm)
      go_wp2_with ((with_reducible refine wpList_store_term ?_ (.tmp 4) (.tmp 17) ?_ (w.heap.size + 1) u ?_ ?_ hZ ?_); rfl; rfl; rfl; rfl; intro w3 hR hb3 _; have hb := hb.trans (hb3.mono (Nat.le_succ _)); clear hb3)
      try simp only [Exit.inBlock, Exit.then]
      refine bodyPost_ret (results_term rfl _ _ _ _ rfl hR) rfl ?_
      exact ⟨⟨_, Lib.hid HR.out.symm, rfl⟩, hb⟩

set_option maxRecDepth 20000 in
set_option maxHeartbeats 4000000 in
theorem rApply_any (A : Option Addr) (l : List BindD) (ca : Nat) (a : AtomD) (w : World) (hL : BL w A ca l) (hl : l.length ≤ 1000000) :
    Calls Try.prog 12 #[.slice A l.length ca, .agg #[.string a.says, .string a.pred, .int .i64 a.n, .bool a.t0.v, .string a.t0.name, .bool a.t1.v, .string a.t1.name, .bool a.t2.v, .string a.t2.name, .bool a.t3.v, .string a.t3.name]] w fun e w' => (∃ q, RowKit.Hid (q = applyA l a) ∧ e = .returned (.agg #[.string q.says, .string q.pred, .int .i64 q.n, .bool q.t0.v, .string q.t0.name, .bool q.t1.v, .string q.t1.name, .bool q.t2.v, .string q.t2.name, .bool q.t3.v, .string q.t3.name])) ∧ Bel w w' := by
  have HL := Lib.hid hL
  clear hL
  have g1 := bel_alloc w (.cells #[.string a.says, .string a.pred, .int .i64 a.n, .bool a.t0.v, .string a.t0.name, .bool a.t1.v, .string a.t1.name, .bool a.t2.v, .string a.t2.name, .bool a.t3.v, .string a.t3.name] 26)
  have hA := AtomAt.new w a
  have g2 := bel_alloc (w.alloc (.cells #[.string a.says, .string a.pred, .int .i64 a.n, .bool a.t0.v, .string a.t0.name, .bool a.t1.v, .string a.t1.name, .bool a.t2.v, .string a.t2.name, .bool a.t3.v, .string a.t3.name] 26)) (.cells #[.string zeroA.says, .string zeroA.pred, .int .i64 zeroA.n, .bool zeroA.t0.v, .string zeroA.t0.name, .bool zeroA.t1.v, .string zeroA.t1.name, .bool zeroA.t2.v, .string zeroA.t2.name, .bool zeroA.t3.v, .string zeroA.t3.name] 26)
  have hZ := AtomAt.new (w.alloc (.cells #[.string a.says, .string a.pred, .int .i64 a.n, .bool a.t0.v, .string a.t0.name, .bool a.t1.v, .string a.t1.name, .bool a.t2.v, .string a.t2.name, .bool a.t3.v, .string a.t3.name] 26)) zeroA
  rw [show (w.alloc (.cells #[.string a.says, .string a.pred, .int .i64 a.n, .bool a.t0.v, .string a.t0.name, .bool a.t1.v, .string a.t1.name, .bool a.t2.v, .string a.t2.name, .bool a.t3.v, .string a.t3.name] 26)).heap.size = w.heap.size + 1 by simp] at hZ
  have hA := hA.bel g2
  have hb := g1.trans' g2
  simp only [zeroA, zeroT] at hb hA
  have HB0 := Lib.hid hb
  have HA0 := Lib.hid hA
  have HZ0 := Lib.hid hZ
  have hc4 := cntI_le a.n
  clear g1 g2 hb hA hZ
  go_enter Try.func12, Try.ntmps12
  go_wp2_with (fail)
  go_loopw [5] (fun i wr => ∃ k : Nat, k ≤ cntI a.n ∧ i = .int .i64 k ∧ RowKit.Hid (Bel w wr ∧ AtomAt wr w.heap.size (appK l a k) ∧ AtomAt wr (w.heap.size + 1) zeroA)) (fun i _ => cntI a.n - (intOf i).toNat)
  case atStart => exact ⟨0, Nat.zero_le _, rfl, Lib.hid ⟨HB0.out, HA0.out, HZ0.out⟩⟩
  case round =>
    obtain ⟨k, hk, rfl, H⟩ := hrel
    clear HB0 HA0 HZ0
    have hA := H.out.2.1
    have hb := H.out.1
    have hZ := H.out.2.2
    clear H
    obtain ⟨q, hq⟩ : ∃ q, q = appK l a k := ⟨_, rfl⟩
    have HC : RowKit.Hid (cntI q.n = cntI a.n) := Lib.hid (by rw [hq]; rfl)
    have hAq := hA
    rw [← hq] at hAq
    have HQ0 := Lib.hid hq
    clear hq
    obtain ⟨f0, f1, f2, f3, f4, f5, f6, f7, f8, f9, f10⟩ := hAq.cells
    have hlt2 : w.heap.size < w.heap.size + 1 := by omega
    go_wp2_with (fail)
    refine (rCount_any _ _ _ _ _ _ _ _ _ _ _ _).mono ?_
    rw [HC.out]
    rintro e w1 ⟨rfl, hg⟩
    have hA := hA.bel hg
    have hAq := hAq.bel hg
    have hZ := hZ.bel hg
    have hb := hb.trans' hg
    clear hg f0 f1 f2 f3 f4 f5 f6 f7 f8 f9 f10
    generalize hcc : cntI a.n = c at hc4 hk ⊢
    have HCC := Lib.hid hcc
    clear hcc
    by_cases hlt : k < c
    · have hk4 : k < 4 := by omega
      have hq : (0 : Int) ≤ k := by omega
      have hq1 : (k : Int) < 4 := by omega
      have hq2 : (k : Int) < c := by omega
      obtain ⟨t, ht⟩ := args_some a k hk4
      obtain ⟨e1, e2⟩ := appK_step l a k hk4 t ht
      have HS := Lib.hid e2
      obtain ⟨_, _, e3, _, c1, c2⟩ := hA.terms k (by exact hk4)
      injection e3 with e3
      injection e3 with e3 e4
      subst e3 e4
      have e5 : (argsD (appK l a k))[k]'(by exact hk4) = t := by
        rw [List.getElem?_eq_getElem (by exact hk4)] at e1
        injection e1
      rw [e5] at c1 c2
      clear e1 e2 e5 ht
      have hT := Lib.hid (rTerm4_any A l l.length ca rfl t w1 (HL.out.bel hb) hl)
      obtain ⟨tv, ts⟩ := t
      simp only at c1 c2
      go_wp2_with (first | (go_at_call 27; refine hT.out.mono ?_; rintro e w2 ⟨⟨u, HU, rfl⟩, hg⟩; have hA := hA.bel hg; have hZ := hZ.bel hg; have hb := hb.trans' hg; clear hg) | ((with_reducible refine wpList_store_arg ?_ (.tmp 20) (.tmp 18) ?_ w.heap.size k u ?_ ?_ hA hk4 ?_); rfl; rfl; rfl; rfl; intro w3 hA3 hb3 ho3))
      go_roundw
      case rel =>
        refine ⟨k + 1, by have := HCC.out; omega, by go_num, Lib.hid ⟨hb.trans hb3, ?_, (ho3 _ (by omega)).trans hZ⟩⟩
        rw [← HS.out, ← HU.out]; exact hA3
      case measure => simp [intOf]; have := HCC.out; omega
    · obtain rfl : k = c := by omega
      have HQ2 : RowKit.Hid (q = applyA l a) := Lib.hid (by rw [HQ0.out, ← HCC.out]; rfl)
      obtain ⟨f0, f1, f2, f3, f4, f5, f6, f7, f8, f9, f10⟩ := hAq.cells
      go_wp2_with ((with_reducible refine wpList_store_atom ?_ (.tmp 4) (.tmp 21) ?_ (w.heap.size + 1) q ?_ ?_ hZ ?_); rfl; rfl; rfl; rfl; intro w3 hR hb3 _; have hb := hb.trans (hb3.mono (Nat.le_succ _)); clear hb3)
      try simp only [Exit.inBlock, Exit.then]
      refine bodyPost_ret (results_atom rfl _ _ _ _ rfl hR) rfl ?_
      exact ⟨⟨_, HQ2, rfl⟩, hb⟩
end Go.Proofs.Ytkcnbdlhggoojaa
namespace Go.Proofs.Ytkcnbdlhggoojaa
open Go.RowKit

def AdjB (l : List BindD) (k : Nat) : Prop := ∀ j (h : j + 1 < l.length), j + 1 < k → ltB l[j] l[j + 1] = true
theorem adj_zero (l : List BindD) : AdjB l 0 := fun j _ h => by omega
theorem adj_one (l : List BindD) : AdjB l 1 := fun j _ h => by omega
theorem adj_succ {l : List BindD} {m : Nat} (hm : m + 1 < l.length) (h : AdjB l (m + 1)) (h2 : ltB l[m] l[m + 1] = true) : AdjB l (m + 1 + 1) := fun j hj hk => by
  by_cases e : j = m
  · subst e; exact h2
  · exact h j hj (by omega)
theorem adj_asc {l : List BindD} (h : AdjB l l.length) : Asc l := asc_of_up l (fun j hj => h j hj hj)
theorem adj_not {l : List BindD} {m : Nat} (hm : m + 1 < l.length) (h2 : ltB l[m] l[m + 1] = false) : errB l = 15 := err_asc (fun h => by
  have := asc_adj h m hm
  rw [h2] at this; cases this)

set_option maxRecDepth 20000 in
set_option maxHeartbeats 8000000 in
theorem rCheck4_any (A : Option Addr) (l : List BindD) (n ca : Nat) (hn : l.length = n) (w : World) (hL : BL w A ca l) (hl : l.length ≤ 1000000) :
    Calls Try.prog 11 #[.slice A n ca] w fun e w' => e = .returned (.int .i64 (errB l)) ∧ Bel w w' := by
  subst hn
  have HL := Lib.hid hL
  clear hL
  go_enter Try.func11, Try.ntmps11
  go_wp2
  go_loopw [3] (fun i wr => ∃ k : Nat, k ≤ l.length ∧ i = .int .i64 k ∧ RowKit.Hid (Bel w wr) ∧ RowKit.Hid (AdjB l k ∧ (l.take k).all (goodB l) = true)) (fun i _ => l.length - (intOf i).toNat)
  case atStart => exact ⟨0, Nat.zero_le _, rfl, Lib.hid (Below.refl _ _), Lib.hid ⟨adj_zero l, rfl⟩⟩
  case round =>
    obtain ⟨k, hk, rfl, HB, HU⟩ := hrel
    by_cases hlt : k < l.length
    case neg =>
      obtain rfl : k = l.length := by omega
      have HE := Lib.hid (err_ok (adj_asc HU.out.1) HU.out.2)
      go_wp2
      go_ret
      exact ⟨ret_int HE.out.symm, HB.out⟩
    obtain ⟨b, o, rfl, hbb, hc⟩ := bl_get (HL.out.bel HB.out) (by omega)
    obtain ⟨c1, c2, c3⟩ := hc k hlt
    have hq : (0 : Int) ≤ k := by omega
    have hq2 : (k : Int) < l.length := by omega
    have HX : RowKit.Hid (goodB l l[k] = false → errB l = 15) := Lib.hid (err_bad (List.getElem_mem hlt))
    have HS : RowKit.Hid (goodB l l[k] = true → (l.take (k + 1)).all (goodB l) = true) := Lib.hid (all_succ hlt HU.out.2)
    have HW := Lib.hid (HL.out.bel HB.out)
    have hF := Lib.hid (fun W (hg : Bel wr W) s => rGet_any (some ⟨b, o, none⟩) l l.length ca rfl s W (HW.out.bel hg) hl)
    by_cases hk0 : k = 0
    · subst hk0
      have HJ := Lib.hid (adj_one l)
      clear hc hbb HU HW
      generalize l[0] = x at c1 c2 c3 HS HX
      obtain ⟨xv, tv, s⟩ := x
      simp only at c1 c2 c3
      by_cases hs : s = emp
      · subst hs
        have HE := Lib.hid (HX.out good_emp)
        unfold emp at *
        go_wp2
        go_quiet (fail)
        go_wp2
        go_ret
        exact ⟨ret_int HE.out.symm, HB.out.trans' (bel_drewN _ _)⟩
      · have hs2 := ne_emp hs
        have hs3 : s.toList.isEmpty = false := by simpa using hs2
        cases tv
        · have HN := Lib.hid (HS.out (good_const hs))
          clear hs
          go_wp2
          go_quiet (fail)
          go_wp2
          go_roundw
          case rel => exact ⟨1, by omega, by go_num, Lib.hid (HB.out.trans' (bel_drewN _ _)), Lib.hid ⟨HJ.out, HN.out⟩⟩
          case measure => simp [intOf]; omega
        · have HS2 := Lib.hid hs
          clear hs
          go_wp2
          go_quiet (fail)
          go_wp2_with (fail)
          refine (hF.out _ (bel_drewN _ _) s).mono ?_
          rintro e w2 ⟨⟨t, is, HG, rfl⟩, hg⟩
          have HB2 := Lib.hid ((HB.out.trans' (bel_drewN _ _)).trans' (hg.trans' (bel_alloc w2 (.cells #[.bool t.v, .string t.name] 23))))
          have HI : RowKit.Hid (is = (getB l s).isSome) := Lib.hid (by rw [← getR_snd, ← HG.out])
          clear hg
          cases is
          · have HN := Lib.hid (HS.out (by rw [good_var HS2.out, ← HI.out]; rfl))
            go_wp2
            go_roundw
            case rel => exact ⟨1, by omega, by go_num, HB2, Lib.hid ⟨HJ.out, HN.out⟩⟩
            case measure => simp [intOf]; omega
          · have HE := Lib.hid (HX.out (by rw [good_var HS2.out, ← HI.out]; rfl))
            go_wp2
            go_ret
            exact ⟨ret_int HE.out.symm, HB2.out⟩
    · obtain ⟨m, rfl⟩ : ∃ m, k = m + 1 := ⟨k - 1, by omega⟩
      obtain ⟨d1, _, _⟩ := hc m (by omega)
      have hqm : (0 : Int) ≤ m := by omega
      have hqm2 : (m : Int) < l.length := by omega
      have hqm3 : (m : Int) + 1 < l.length := by omega
      have hqm4 : (0 : Int) < (m : Int) + 1 := by omega
      rcases Bool.eq_false_or_eq_true (Op.bytesLess l[m].v.toList l[m + 1].v.toList) with hv | hv
      case inr =>
        have HE := Lib.hid (adj_not hlt hv)
        clear hc hbb HU HW HX HS hF hq hq2
        generalize l[m].v = x at d1 hv
        generalize l[m + 1].v = y at c1 hv
        have hw2 : IntKind.i64.wrap ((m : Int) + 1 - 1) = m := (IntWalk.i64_in _ (by omega)).trans (by omega)
        have hw : IntKind.i64.wrap (m : Int) = m := IntWalk.i64_in _ (by omega)
        go_wp2
        go_quiet (fail)
        clear hw hw2
        go_wp2
        go_ret
        exact ⟨ret_int HE.out.symm, HB.out.trans' (bel_drewN _ _)⟩
      have HJ := Lib.hid (adj_succ hlt HU.out.1 hv)
      clear hc hbb HU HW hq hq2
      generalize l[m].v = z at d1 hv
      generalize l[m + 1] = x at c1 c2 c3 HS HX hv
      obtain ⟨xv, tv, s⟩ := x
      simp only at c1 c2 c3 hv
      by_cases hs : s = emp
      · subst hs
        have HE := Lib.hid (HX.out good_emp)
        unfold emp at *
        have hw2 : IntKind.i64.wrap ((m : Int) + 1 - 1) = m := (IntWalk.i64_in _ (by omega)).trans (by omega)
        have hw : IntKind.i64.wrap (m : Int) = m := IntWalk.i64_in _ (by omega)
        go_wp2
        go_quiet (fail)
        clear hw hw2
        go_wp2
        go_ret
        exact ⟨ret_int HE.out.symm, HB.out.trans' (bel_drewN _ _)⟩
      · have hs2 := ne_emp hs
        have hs3 : s.toList.isEmpty = false := by simpa using hs2
        have hw2 : IntKind.i64.wrap ((m : Int) + 1 - 1) = m := (IntWalk.i64_in _ (by omega)).trans (by omega)
        have hw : IntKind.i64.wrap (m : Int) = m := IntWalk.i64_in _ (by omega)
        cases tv
        · have HN := Lib.hid (HS.out (good_const hs))
          clear hs
          go_wp2
          go_quiet (fail)
          clear hw hw2
          go_wp2
          go_roundw
          case rel => exact ⟨m + 1 + 1, by omega, by go_num, Lib.hid (HB.out.trans' (bel_drewN _ _)), Lib.hid ⟨HJ.out, HN.out⟩⟩
          case measure => simp [intOf]; omega
        · have HS2 := Lib.hid hs
          clear hs
          go_wp2
          go_quiet (fail)
          clear hw hw2
          go_wp2_with (fail)
          refine (hF.out _ (bel_drewN _ _) s).mono ?_
          rintro e w2 ⟨⟨t, is, HG, rfl⟩, hg⟩
          have HB2 := Lib.hid ((HB.out.trans' (bel_drewN _ _)).trans' (hg.trans' (bel_alloc w2 (.cells #[.bool t.v, .string t.name] 23))))
          have HI : RowKit.Hid (is = (getB l s).isSome) := Lib.hid (by rw [← getR_snd, ← HG.out])
          clear hg
          cases is
          · have HN := Lib.hid (HS.out (by rw [good_var HS2.out, ← HI.out]; rfl))
            go_wp2
            go_roundw
            case rel => exact ⟨m + 1 + 1, by omega, by go_num, HB2, Lib.hid ⟨HJ.out, HN.out⟩⟩
            case measure => simp [intOf]; omega
          · have HE := Lib.hid (HX.out (by rw [good_var HS2.out, ← HI.out]; rfl))
            go_wp2
            go_ret
            exact ⟨ret_int HE.out.symm, HB2.out⟩
end Go.Proofs.Ytkcnbdlhggoojaa
namespace Go.Proofs.Ytkcnbdlhggoojaa
open Go.RowKit

theorem put_not : ∀ {l : List BindD} {b : BindD}, (∀ x ∈ l, ltS b.v x.v = false) → putB l b = l ++ [b]
  | [], b, _ => rfl
  | y :: l, b, h => by
    rw [putB_cons, if_neg (by simp [h y (List.mem_cons_self ..)]), put_not (fun x hx => h x (List.mem_cons_of_mem _ hx))]
    rfl
theorem put_app_in : ∀ {l : List BindD} {b : BindD} (y : BindD), (∃ x ∈ l, ltS b.v x.v = true) → putB (l ++ [y]) b = putB l b ++ [y]
  | [], b, y, h => by obtain ⟨x, hx, _⟩ := h; cases hx
  | z :: l, b, y, h => by
    rw [List.cons_append, putB_cons, putB_cons]
    by_cases hz : ltS b.v z.v = true
    · rw [if_pos hz, if_pos hz]; rfl
    · rw [if_neg hz, if_neg hz, put_app_in y (by
        obtain ⟨x, hx, hh⟩ := h
        rcases List.mem_cons.1 hx with rfl | hx
        · exact absurd hh hz
        · exact ⟨x, hx, hh⟩)]
      rfl
theorem put_app_new : ∀ {l : List BindD} {b y : BindD}, (∀ x ∈ l, ltS b.v x.v = false) → ltS b.v y.v = true → putB (l ++ [y]) b = l ++ [b] ++ [y]
  | [], b, y, _, h => by show (if ltS b.v y.v then b :: y :: [] else y :: putB [] b) = _; rw [if_pos h]; rfl
  | z :: l, b, y, h, hy => by
    rw [List.cons_append, putB_cons, if_neg (by simp [h z (List.mem_cons_self ..)]), put_app_new (fun x hx => h x (List.mem_cons_of_mem _ hx)) hy]
    rfl
def InvP (l : List BindD) (b : BindD) (k : Nat) (inn : Bool) (out : List BindD) : Prop :=
  if inn then (∃ x ∈ l.take k, ltS b.v x.v = true) ∧ out = putB (l.take k) b else (∀ x ∈ l.take k, ltS b.v x.v = false) ∧ out = l.take k
theorem take_one {l : List BindD} {k : Nat} {x : BindD} (h : l[k]? = some x) : l.take (k + 1) = l.take k ++ [x] := by rw [List.take_add_one, h]; rfl
theorem invP_zero (l : List BindD) (b : BindD) : InvP l b 0 false [] := by simp [InvP]
theorem invP_no {l : List BindD} {b : BindD} {k : Nat} {out : List BindD} {x : BindD} (hx : l[k]? = some x) (h : InvP l b k false out) (hn : ltS b.v x.v = false) : InvP l b (k + 1) false (out ++ [x]) := by
  unfold InvP at h ⊢
  simp only [Bool.false_eq_true, if_false] at h ⊢
  rw [take_one hx]
  refine ⟨fun y hy => ?_, by rw [h.2]⟩
  rcases List.mem_append.1 hy with hy | hy
  · exact h.1 y hy
  · obtain rfl := List.mem_singleton.1 hy; exact hn
theorem invP_new {l : List BindD} {b : BindD} {k : Nat} {out : List BindD} {x : BindD} (hx : l[k]? = some x) (h : InvP l b k false out) (hn : ltS b.v x.v = true) : InvP l b (k + 1) true (out ++ [b] ++ [x]) := by
  unfold InvP at h ⊢
  simp only [Bool.false_eq_true, if_false, if_true] at h ⊢
  rw [take_one hx]
  exact ⟨⟨x, by simp, hn⟩, by rw [put_app_new h.1 hn, h.2]⟩
theorem invP_in {l : List BindD} {b : BindD} {k : Nat} {out : List BindD} {x : BindD} (hx : l[k]? = some x) (h : InvP l b k true out) : InvP l b (k + 1) true (out ++ [x]) := by
  unfold InvP at h ⊢
  simp only [if_true] at h ⊢
  rw [take_one hx]
  refine ⟨?_, by rw [put_app_in x h.1, h.2]⟩
  obtain ⟨y, hy, hh⟩ := h.1
  exact ⟨y, List.mem_append_left _ hy, hh⟩
theorem invP_end_no {l : List BindD} {b : BindD} {out : List BindD} (h : InvP l b l.length false out) : putB l b = out ++ [b] := by
  unfold InvP at h
  simp only [Bool.false_eq_true, if_false, List.take_length] at h
  rw [put_not h.1, h.2]
theorem invP_end_in {l : List BindD} {b : BindD} {out : List BindD} (h : InvP l b l.length true out) : putB l b = out := by
  unfold InvP at h
  simp only [if_true, List.take_length] at h
  exact h.2.symm

set_option maxRecDepth 20000 in
set_option maxHeartbeats 8000000 in
theorem put_any (A : Option Addr) (l : List BindD) (n ca : Nat) (hn : l.length = n) (x : BindD) (w : World) (hL : BL w A ca l) (hl : l.length ≤ 1000000) :
    Calls Try.prog 49 #[.slice A n ca, .agg #[.string x.v, .bool x.t.v, .string x.t.name]] w fun e w' => (∃ q c out, RowKit.Hid (out = putB l x) ∧ RowKit.Hid (OB w w' q c out) ∧ e = .returned (.slice q out.length c)) ∧ Bel w w' := by
  subst hn
  obtain ⟨xv, tv, ts⟩ := x
  have hX : BindAt (w.alloc (.cells #[.string xv, .bool tv, .string ts] 37)) w.heap.size ⟨xv, tv, ts⟩ := BindAt.new w ⟨xv, tv, ts⟩
  have hb := bel_alloc w (.cells #[.string xv, .bool tv, .string ts] 37)
  have HL := Lib.hid (hL.bel hb)
  clear hL
  obtain ⟨w1, hw1⟩ : ∃ w1, w1 = w.alloc (.cells #[.string xv, .bool tv, .string ts] 37) := ⟨_, rfl⟩
  rw [← hw1] at hX HL hb
  have HX := Lib.hid hX
  have HB := Lib.hid hb
  clear hX hb
  go_enter Try.func49, Try.ntmps49
  go_wp2
  rw [← hw1]
  have HSZ : RowKit.Hid (w1.heap.size = w.heap.size + 1) := Lib.hid (by rw [hw1]; simp)
  clear hw1
  go_loopw [5, 6, 7] (fun a5 a6 i wr => ∃ (k : Nat) (out : List BindD) (q : Option Addr) (c : Nat) (inn : Bool), k ≤ l.length ∧ i = .int .i64 k ∧ a6 = .bool inn ∧ a5 = .slice q out.length c ∧ out.length ≤ k + k ∧ RowKit.Hid (InvP l ⟨xv, tv, ts⟩ k inn out ∧ OB w1 wr q c out)) (fun _ _ i _ => l.length - (intOf i).toNat)
  case atStart => exact ⟨0, [], none, 0, false, Nat.zero_le _, rfl, rfl, rfl, by simp, Lib.hid ⟨invP_zero _ _, OB.nil _ (Below.refl _ _)⟩⟩
  case round =>
    obtain ⟨k, out, q, c, inn, hk, rfl, rfl, rfl, hol, H⟩ := hrel
    have HO := Lib.hid H.out.2
    have HI := Lib.hid H.out.1
    clear H
    have hol2 : out.length ≤ 2000000 := by omega
    have hX := HX.out.bel HO.out.bel
    have x1 : wr.cell? ⟨w.heap.size, 0, none⟩ = some (.string xv) := hX.cells.1
    have x2 : wr.cell? ⟨w.heap.size, 1, none⟩ = some (.bool tv) := hX.cells.2.1
    have x3 : wr.cell? ⟨w.heap.size, 2, none⟩ = some (.string ts) := hX.cells.2.2
    by_cases hlt : k < l.length
    · obtain ⟨b, o, rfl, hbb, hc⟩ := bl_get (HL.out.bel HO.out.bel) (by omega)
      obtain ⟨c1, c2, c3⟩ := hc k hlt
      have hq : (0 : Int) ≤ k := by omega
      have hq2 : (k : Int) < l.length := by omega
      have HAT := Lib.hid (List.getElem?_eq_getElem hlt)
      clear hc hbb
      generalize l[k] = y at c1 c2 c3 HAT
      obtain ⟨yv, yb, yn⟩ := y
      simp only at c1 c2 c3
      cases inn
      · have hcmp : (Op.bytesLess yv.toList xv.toList = true) ∨ (Op.bytesLess yv.toList xv.toList = false ∧ (yv.toList == xv.toList) = true) ∨ (Op.bytesLess yv.toList xv.toList = false ∧ (yv.toList == xv.toList) = false ∧ Op.bytesLess xv.toList yv.toList = true) := by
          cases h2 : Op.bytesLess yv.toList xv.toList
          · by_cases e : yv = xv
            · exact .inr (.inl ⟨rfl, toList_eq e⟩)
            · refine .inr (.inr ⟨rfl, toList_ne e, ?_⟩)
              cases h3 : Op.bytesLess xv.toList yv.toList
              · exact absurd (ltS_tri h2 h3) e
              · rfl
          · exact .inl rfl
        rcases hcmp with h2 | ⟨h2, he⟩ | ⟨h2, he, hv⟩
        · have HN := Lib.hid (invP_no HAT.out HI.out (ltS_asymm h2))
          go_wp2
          go_quiet (fail)
          have HOq := Lib.hid (HO.out.bel' (bel_drewN wr nq))
          have c1 := cell_bel c1 (bel_drewN wr nq)
          have c2 := cell_bel c2 (bel_drewN wr nq)
          have c3 := cell_bel c3 (bel_drewN wr nq)
          have x1 := cell_bel x1 (bel_drewN wr nq)
          have x2 := cell_bel x2 (bel_drewN wr nq)
          have x3 := cell_bel x3 (bel_drewN wr nq)
          generalize wr.drewN nq = wq at HOq c1 c2 c3 x1 x2 x3 ⊢
          go_wp2_with (at_builtin; refine wpList_push rfl (.tmp 30) (.tmp 35) 27 Try.underlying27 rfl ⟨yv, yb, yn⟩ rfl rfl HOq.out hol2 ?_; intro q' c' w5 out' HX' HO')
          go_roundw
          case rel => exact ⟨k + 1, out', q', c', false, by omega, by go_num, rfl, rfl, (by rw [HX'.out, List.length_append]; simp; omega), Lib.hid ⟨by rw [HX'.out]; exact HN.out, HO'.out⟩⟩
          case measure => simp [intOf]; omega
        · have HN := Lib.hid (invP_no HAT.out HI.out (show ltS xv yv = false from (by have : yv = xv := ba_ext (by simpa using he); rw [this]; exact ltS_irr _)))
          go_wp2
          go_quiet (fail)
          have HOq := Lib.hid (HO.out.bel' (bel_drewN wr nq))
          have c1 := cell_bel c1 (bel_drewN wr nq)
          have c2 := cell_bel c2 (bel_drewN wr nq)
          have c3 := cell_bel c3 (bel_drewN wr nq)
          have x1 := cell_bel x1 (bel_drewN wr nq)
          have x2 := cell_bel x2 (bel_drewN wr nq)
          have x3 := cell_bel x3 (bel_drewN wr nq)
          generalize wr.drewN nq = wq at HOq c1 c2 c3 x1 x2 x3 ⊢
          go_wp2_with (at_builtin; refine wpList_push rfl (.tmp 30) (.tmp 35) 27 Try.underlying27 rfl ⟨yv, yb, yn⟩ rfl rfl HOq.out hol2 ?_; intro q' c' w5 out' HX' HO')
          go_roundw
          case rel => exact ⟨k + 1, out', q', c', false, by omega, by go_num, rfl, rfl, (by rw [HX'.out, List.length_append]; simp; omega), Lib.hid ⟨by rw [HX'.out]; exact HN.out, HO'.out⟩⟩
          case measure => simp [intOf]; omega
        · have HN := Lib.hid (invP_new HAT.out HI.out hv)
          clear hv
          go_wp2
          go_quiet (fail)
          have HOq := Lib.hid (HO.out.bel' (bel_drewN wr nq))
          have c1 := cell_bel c1 (bel_drewN wr nq)
          have c2 := cell_bel c2 (bel_drewN wr nq)
          have c3 := cell_bel c3 (bel_drewN wr nq)
          have x1 := cell_bel x1 (bel_drewN wr nq)
          have x2 := cell_bel x2 (bel_drewN wr nq)
          have x3 := cell_bel x3 (bel_drewN wr nq)
          generalize wr.drewN nq = wq at HOq c1 c2 c3 x1 x2 x3 ⊢
          have HCC : RowKit.Hid (∀ W, Bel w1 W → W.cell? ⟨b, o + k * 3, none⟩ = some (.string yv) ∧ W.cell? ⟨b, o + k * 3 + 1, none⟩ = some (.bool yb) ∧ W.cell? ⟨b, o + k * 3 + 2, none⟩ = some (.string yn)) := Lib.hid (fun W hg => by
            obtain ⟨b2, o2, e2, _, hc2⟩ := bl_get (HL.out.bel hg) (by omega)
            injection e2 with e2
            injection e2 with e2 e3
            subst e2 e3
            have hy : l[k] = ⟨yv, yb, yn⟩ := by have := HAT.out; rw [List.getElem?_eq_getElem hlt] at this; injection this
            have := hc2 k hlt
            rw [hy] at this
            exact this)
          go_wp2_with (first | (at_builtin; refine wpList_push rfl (.tmp 26) (.tmp 28) 27 Try.underlying27 rfl ⟨xv, tv, ts⟩ rfl rfl HOq.out hol2 ?_; intro q1 c1' w5 out1 HX1 HO1; have k1 := (HCC.out _ HO1.out.bel).1; have k2 := (HCC.out _ HO1.out.bel).2.1; have k3 := (HCC.out _ HO1.out.bel).2.2; have hol1 := Nat.le_of_eq (show out1.length = out.length + 1 from (by rw [HX1.out, List.length_append]; rfl))) | (at_builtin; refine wpList_push rfl (.tmp 30) (.tmp 35) 27 Try.underlying27 rfl ⟨yv, yb, yn⟩ rfl rfl HO1.out (by omega) ?_; intro q' c' w6 out' HX' HO'))
          go_roundw
          case rel => exact ⟨k + 1, out', q', c', true, by omega, by go_num, rfl, rfl, (by rw [HX'.out, List.length_append]; simp; omega), Lib.hid ⟨by rw [HX'.out, HX1.out]; exact HN.out, HO'.out⟩⟩
          case measure => simp [intOf]; omega
      · have HN := Lib.hid (invP_in HAT.out HI.out)
        go_wp2
        go_quiet (fail)
        have HOq := Lib.hid (HO.out.bel' (bel_drewN wr nq))
        have c1 := cell_bel c1 (bel_drewN wr nq)
        have c2 := cell_bel c2 (bel_drewN wr nq)
        have c3 := cell_bel c3 (bel_drewN wr nq)
        have x1 := cell_bel x1 (bel_drewN wr nq)
        have x2 := cell_bel x2 (bel_drewN wr nq)
        have x3 := cell_bel x3 (bel_drewN wr nq)
        generalize wr.drewN nq = wq at HOq c1 c2 c3 x1 x2 x3 ⊢
        go_wp2_with (at_builtin; refine wpList_push rfl (.tmp 30) (.tmp 35) 27 Try.underlying27 rfl ⟨yv, yb, yn⟩ rfl rfl HOq.out hol2 ?_; intro q' c' w5 out' HX' HO')
        go_roundw
        case rel => exact ⟨k + 1, out', q', c', true, by omega, by go_num, rfl, rfl, (by rw [HX'.out, List.length_append]; simp; omega), Lib.hid ⟨by rw [HX'.out]; exact HN.out, HO'.out⟩⟩
        case measure => simp [intOf]; omega
    · obtain rfl : k = l.length := by omega
      have HBW : RowKit.Hid (Bel w w1) := HB
      cases inn
      · have HE := Lib.hid (invP_end_no HI.out)
        go_wp2_with (at_builtin; refine wpList_push rfl (.tmp 39) (.tmp 41) 27 Try.underlying27 rfl ⟨xv, tv, ts⟩ rfl rfl HO.out hol2 ?_; intro q1 c1' w5 out1 HX1 HO1)
        go_ret
        exact ⟨⟨_, _, out1, Lib.hid (HX1.out.trans HE.out.symm), Lib.hid (HO1.out.base HBW.out), rfl⟩, HBW.out.trans' HO1.out.bel⟩
      · have HE := Lib.hid (invP_end_in HI.out)
        go_wp2
        go_ret
        exact ⟨⟨_, _, out, Lib.hid HE.out.symm, Lib.hid (HO.out.base HBW.out), rfl⟩, HBW.out.trans' HO.out.bel⟩
end Go.Proofs.Ytkcnbdlhggoojaa
namespace Go.Proofs.Ytkcnbdlhggoojaa
open Go.RowKit

set_option maxRecDepth 20000 in
set_option maxHeartbeats 8000000 in
theorem rBind_any (A : Option Addr) (l : List BindD) (n ca : Nat) (hn : l.length = n) (v : ByteArray) (t : TermD) (w : World) (hL : BL w A ca l) (hl : l.length ≤ 100000) :
    Calls Try.prog 41 #[.slice A n ca, .string v, .agg #[.bool t.v, .string t.name]] w fun e w' => (∃ q c out n, RowKit.Hid ((out, n) = bindD l v t) ∧ RowKit.Hid (OB w w' q c out) ∧ e = .returned (.tuple #[.slice q out.length c, .int .i64 n])) ∧ Bel w w' := by
  subst hn
  have HL := Lib.hid hL
  clear hL
  have hl2 : l.length ≤ 1000000 := by omega
  obtain ⟨tv, ts⟩ := t
  have hb := bel_alloc w (.cells #[.bool tv, .string ts] 23)
  have hT : TermAt (w.alloc (.cells #[.bool tv, .string ts] 23)) w.heap.size ⟨tv, ts⟩ := TermAt.new w ⟨tv, ts⟩
  have hC := Lib.hid (fun W (hg : Bel w W) => rCheck4_any A l l.length ca rfl W (HL.out.bel hg) hl2)
  rcases Bool.eq_false_or_eq_true (checkB l) with hc | hc
  case inr =>
    have HR := Lib.hid (bind_bad (v := v) (t := ⟨tv, ts⟩) hc)
    have hE := errB_bad hc
    rw [hE] at hC
    clear hc hE
    go_enter Try.func41, Try.ntmps41
    go_wp2_with (go_at_call 11; refine (hC.out _ hb).mono ?_; rintro e w1 ⟨rfl, hg⟩; have hb := hb.trans' hg; clear hg)
    go_ret2
    exact ⟨⟨none, 0, [], 15, Lib.hid HR.out.symm, Lib.hid (OB.nil w hb), rfl⟩, hb⟩
  have hE := errB_ok hc
  rw [hE] at hC
  have HC := Lib.hid hc
  clear hc hE
  have hBi := Lib.hid (fun W (hg : Bel w W) => rGet_any A l l.length ca rfl v W (HL.out.bel hg) hl2)
  have hTe := Lib.hid (fun W (hg : Bel w W) => rTerm4_any A l l.length ca rfl ⟨tv, ts⟩ W (HL.out.bel hg) hl2)
  by_cases hv : v = emp
  · have HR := Lib.hid (bind_arg (v := v) (t := ⟨tv, ts⟩) HC.out (.inl hv))
    subst hv
    unfold emp at *
    go_enter Try.func41, Try.ntmps41
    go_wp2_with (go_at_call 11; refine (hC.out _ hb).mono ?_; rintro e w1 ⟨rfl, hg⟩; have hb := hb.trans' hg; clear hg)
    go_ret2
    exact ⟨⟨none, 0, [], 2, Lib.hid HR.out.symm, Lib.hid (OB.nil w hb), rfl⟩, hb⟩
  have hv2 := ne_emp hv
  have hv3 : v.toList.isEmpty = false := by simpa using hv2
  by_cases hs : ts = emp
  · have HR := Lib.hid (bind_arg (v := v) (t := ⟨tv, ts⟩) HC.out (.inr hs))
    subst hs
    clear hv
    unfold emp at *
    go_enter Try.func41, Try.ntmps41
    go_wp2_with (go_at_call 11; refine (hC.out _ hb).mono ?_; rintro e w1 ⟨rfl, hg⟩; have hT := hT.bel hg; have d1 : World.cell? _ _ = some (.string ⟨#[]⟩) := hT.cells.2; have hb := hb.trans' hg; clear hg)
    go_ret2
    exact ⟨⟨none, 0, [], 2, Lib.hid HR.out.symm, Lib.hid (OB.nil w hb), rfl⟩, hb⟩
  have hs2 := ne_emp hs
  have hs3 : ts.toList.isEmpty = false := by simpa using hs2
  have HVS : RowKit.Hid (¬ (v = emp ∨ ts = emp)) := Lib.hid (fun h => h.elim hv hs)
  clear hv hs
  obtain ⟨r, hr⟩ : ∃ r, r = getR l v := ⟨_, rfl⟩
  rw [← hr] at hBi
  have HRS : RowKit.Hid (r.2 = (getB l v).isSome) := Lib.hid (by rw [hr, getR_snd])
  clear hr
  obtain ⟨r1, r2⟩ := r
  cases r2
  case true =>
    have HR := Lib.hid (bind_twice (t := ⟨tv, ts⟩) HC.out HVS.out HRS.out.symm)
    go_enter Try.func41, Try.ntmps41
    go_wp2_with (first | (go_at_call 11; refine (hC.out _ hb).mono ?_; rintro e w1 ⟨rfl, hg⟩; have hT := hT.bel hg; have d1 : World.cell? _ _ = some (.string ts) := hT.cells.2; have hb := hb.trans' hg; clear hg) | (go_at_call 25; refine (hBi.out _ hb).mono ?_; rintro e w2 ⟨⟨t1, is1, hE, rfl⟩, hg⟩; obtain ⟨rfl, rfl⟩ := Prod.mk.inj hE.out; have hb := (hb.trans' hg).trans' (bel_alloc w2 (.cells #[.bool t1.v, .string t1.name] 23)); clear hg))
    go_ret2
    exact ⟨⟨none, 0, [], 5, Lib.hid HR.out.symm, Lib.hid (OB.nil w hb), rfl⟩, hb⟩
  have HG : RowKit.Hid ((getB l v).isSome = false) := Lib.hid HRS.out.symm
  obtain ⟨u, hu⟩ : ∃ u, u = subT l ⟨tv, ts⟩ := ⟨_, rfl⟩
  have HU0 := Lib.hid hu
  have HSB : RowKit.Hid (selfB ⟨v, u⟩ = (u.v && decide (u.name = v))) := Lib.hid rfl
  rw [← hu] at hTe
  cases hsf : selfB ⟨v, u⟩
  case true =>
    have HR := Lib.hid (bind_self HC.out HVS.out HG.out (by rw [← hu]; exact hsf))
    have hse := selfB_iff.1 hsf
    simp only at hse
    clear hu hsf HSB
    subst hse
    go_enter Try.func41, Try.ntmps41
    go_wp2_with (first | (go_at_call 11; refine (hC.out _ hb).mono ?_; rintro e w1 ⟨rfl, hg⟩; have hT := hT.bel hg; have d1 : World.cell? _ _ = some (.string ts) := hT.cells.2; have hb := hb.trans' hg; clear hg) | (go_at_call 25; refine (hBi.out _ hb).mono ?_; rintro e w2 ⟨⟨t1, is1, hE, rfl⟩, hg⟩; obtain ⟨rfl, rfl⟩ := Prod.mk.inj hE.out; have g2 := bel_alloc w2 (.cells #[.bool t1.v, .string t1.name] 23); have hT := (hT.bel hg).bel g2; have d1 : World.cell? _ _ = some (.string ts) := hT.cells.2; have d0 : World.cell? _ _ = some (.bool tv) := hT.cells.1; have hb := (hb.trans' hg).trans' g2; clear hg g2) | (go_at_call 27; refine (hTe.out _ hb).mono ?_; rintro e w3 ⟨⟨u1, HU, rfl⟩, hg⟩; obtain rfl := HU.out; have hb := (hb.trans' hg).trans' (bel_alloc w3 (.cells #[.bool true, .string v] 23)); clear hg))
    go_ret2
    exact ⟨⟨none, 0, [], 2, Lib.hid HR.out.symm, Lib.hid (OB.nil w hb), rfl⟩, hb⟩
  case false =>
    have HR := Lib.hid (bind_ok HC.out HVS.out HG.out (by rw [← hu]; exact hsf))
    rw [← hu] at HR
    have HSF := Lib.hid hsf
    clear hu hsf HSB
    obtain ⟨uv, un⟩ := u
    have hcmp : uv = false ∨ (uv = true ∧ (un.toList == v.toList) = false) := by
      cases uv
      · exact .inl rfl
      · refine .inr ⟨rfl, toList_ne (fun e => ?_)⟩
        have := HSF.out
        rw [selfB_iff.2 (by rw [e])] at this; cases this
    have HMA : RowKit.Hid (∀ k (h : k < l.length), (l.take (k + 1)).map (fun y => (⟨y.v, subT [⟨v, uv, un⟩] y.t⟩ : BindD)) = (l.take k).map (fun y => (⟨y.v, subT [⟨v, uv, un⟩] y.t⟩ : BindD)) ++ [⟨l[k].v, subT [⟨v, uv, un⟩] l[k].t⟩]) :=
      Lib.hid (fun k h => by rw [List.take_add_one, List.getElem?_eq_getElem h, List.map_append]; rfl)
    rcases hcmp with rfl | ⟨rfl, he⟩
    · go_enter Try.func41, Try.ntmps41
      go_wp2_with (first | (go_at_call 11; refine (hC.out _ hb).mono ?_; rintro e w1 ⟨rfl, hg⟩; have hT := hT.bel hg; have d1 : World.cell? _ _ = some (.string ts) := hT.cells.2; have hb := hb.trans' hg; clear hg) | (go_at_call 25; refine (hBi.out _ hb).mono ?_; rintro e w2 ⟨⟨t1, is1, hE, rfl⟩, hg⟩; obtain ⟨rfl, rfl⟩ := Prod.mk.inj hE.out; have g2 := bel_alloc w2 (.cells #[.bool t1.v, .string t1.name] 23); have hT := (hT.bel hg).bel g2; have d1 : World.cell? _ _ = some (.string ts) := hT.cells.2; have d0 : World.cell? _ _ = some (.bool tv) := hT.cells.1; have hb := (hb.trans' hg).trans' g2; clear hg g2) | (go_at_call 27; refine (hTe.out _ hb).mono ?_; rintro e w3 ⟨⟨u1, HU, rfl⟩, hg⟩; obtain rfl := HU.out; have hb := hb.trans' hg; clear hg))
      obtain ⟨wB, hwB⟩ : ∃ wB, wB = (w3.alloc (.cells #[.bool false, .string un] 23)).alloc (.cells #[.string v, .bool false, .string un] 37) := ⟨_, rfl⟩
      rw [← hwB]
      have HBB : RowKit.Hid (Bel w wB) := Lib.hid (by rw [hwB]; exact (hb.trans' (bel_alloc _ _)).trans' (bel_alloc _ _))
      have HX : RowKit.Hid (BindAt wB (w3.heap.size + 1) ⟨v, false, un⟩) := Lib.hid (by
        rw [hwB]
        have := BindAt.new (w3.alloc (.cells #[.bool false, .string un] 23)) ⟨v, false, un⟩
        rwa [show (w3.alloc (.cells #[.bool false, .string un] 23)).heap.size = w3.heap.size + 1 by simp] at this)
      clear hwB hC hBi hTe hT d1 d0 hb
      go_loopw [11, 13] (fun a11 i wr => ∃ (k : Nat) (out : List BindD) (q : Option Addr) (c : Nat), k ≤ l.length ∧ i = .int .i64 k ∧ a11 = .slice q out.length c ∧ out.length ≤ k ∧ RowKit.Hid (out = (l.take k).map (fun y => (⟨y.v, subT [⟨v, false, un⟩] y.t⟩ : BindD)) ∧ OB wB wr q c out)) (fun _ i _ => l.length - (intOf i).toNat)
      case atStart => exact ⟨0, [], none, 0, Nat.zero_le _, rfl, rfl, by simp, Lib.hid ⟨rfl, OB.nil _ (Below.refl _ _)⟩⟩
      case round =>
        obtain ⟨k, out, q, c, hk, rfl, rfl, hol, H⟩ := hrel
        have HO := Lib.hid H.out.2
        have HI := Lib.hid H.out.1
        clear H
        by_cases hlt : k < l.length
        · obtain ⟨b, o, rfl, hbb, hc⟩ := bl_get (HL.out.bel (HBB.out.trans' HO.out.bel)) (by omega)
          obtain ⟨c1, c2, c3⟩ := hc k hlt
          have hq : (0 : Int) ≤ k := by omega
          have hq2 : (k : Int) < l.length := by omega
          have HN := Lib.hid (HMA.out k hlt)
          have HLC : RowKit.Hid (∀ W, Bel wB W → W.cell? ⟨b, o + k * 3, none⟩ = some (.string l[k].v) ∧ W.cell? ⟨b, o + k * 3 + 1, none⟩ = some (.bool l[k].t.v) ∧ W.cell? ⟨b, o + k * 3 + 2, none⟩ = some (.string l[k].t.name)) := Lib.hid (fun W hg => by
            obtain ⟨b2, o2, e2, _, hc2⟩ := bl_get (HL.out.bel (HBB.out.trans' hg)) (by omega)
            injection e2 with e2
            injection e2 with e2 e3
            subst e2 e3
            exact hc2 k hlt)
          clear hc hbb
          generalize l[k] = y at c1 c2 c3 HN HLC
          obtain ⟨yv, yt⟩ := y
          simp only at c1 c2 c3
          have HOd : RowKit.Hid (OB wB wr.drew q c out) := Lib.hid (HO.out.bel' (bel_drew' (Below.refl _ _)))
          have hT := Lib.hid (rTerm4_any (some ⟨w3.heap.size + 1, 0, none⟩) [⟨v, false, un⟩] 1 1 rfl yt wr.drew ((HX.out.bel HOd.out.bel).slice) (by simp))
          go_wp2
          go_region_held3 (fun w' => w'.cell? ⟨b, o + k * 3, none⟩ = some (.string yv) ∧ w'.cell? ⟨b, o + k * 3 + 1, none⟩ = some (.bool yt.v) ∧ w'.cell? ⟨b, o + k * 3 + 2, none⟩ = some (.string yt.name)) (first | go_keep | trivial)
            (first | (go_at_call 27; refine hT.out.mono ?_; rintro e w4 ⟨⟨u, HU, rfl⟩, hg⟩; have HO4 := Lib.hid (HOd.out.bel' hg); have z1 : w4.cell? ⟨b, o + k * 3, none⟩ = some (.string yv) := cell_bel c1 ((bel_drew' (Below.refl _ _)).trans' hg); have z2 : w4.cell? ⟨b, o + k * 3 + 1, none⟩ = some (.bool yt.v) := cell_bel c2 ((bel_drew' (Below.refl _ _)).trans' hg); have z3 : w4.cell? ⟨b, o + k * 3 + 2, none⟩ = some (.string yt.name) := cell_bel c3 ((bel_drew' (Below.refl _ _)).trans' hg); clear hg) | ((refine step_pushes (by rfl) (.tmp 52) (.tmp 66) 27 Try.underlying27 (by rfl) (by rfl) (by rfl) (HO4.out.bel' (bel_alloc _ _)) ((BindAt.new w4 ⟨yv, u⟩).slice) (show List.length [_] = 1 from rfl) (by omega) ?_; intro q2 k2 w5 out2 HX2 HO5 _ _; have u1 := (HLC.out w5 HO5.out.bel).1; have u2 := (HLC.out w5 HO5.out.bel).2.1; have u3 := (HLC.out w5 HO5.out.bel).2.2)))
          all_goals go_wp2
          all_goals go_roundw
          all_goals first
            | (case rel => exact ⟨k + 1, out2, q2, k2, by omega, by go_num, rfl, (by rw [HX2.out, List.length_append, List.length_singleton]; omega), Lib.hid ⟨by rw [HX2.out, HN.out, HI.out, HU.out], HO5.out⟩⟩)
            | (simp [intOf]; omega)
        · obtain rfl : k = l.length := by omega
          have HF := Lib.hid HI.out
          have hX := HX.out.bel HO.out.bel
          have x1 : wr.cell? ⟨w3.heap.size + 1, 0, none⟩ = some (.string v) := hX.cells.1
          have x2 : wr.cell? ⟨w3.heap.size + 1, 1, none⟩ = some (.bool false) := hX.cells.2.1
          have x3 : wr.cell? ⟨w3.heap.size + 1, 2, none⟩ = some (.string un) := hX.cells.2.2
          have hP := Lib.hid (put_any q out out.length c rfl ⟨v, false, un⟩ wr (OwnL.slice EB HO.out) (by omega))
          go_wp2_with (go_at_call 49; refine hP.out.mono ?_; rintro e w6 ⟨⟨q3, c3, out3, HO3, HOB3, rfl⟩, hg⟩)
          go_ret2
          have HBW := Lib.hid (HBB.out.trans' HO.out.bel)
          exact ⟨⟨_, _, out3, 0, Lib.hid (by rw [HR.out, HO3.out, HF.out, List.take_length]), Lib.hid (HOB3.out.base HBW.out), rfl⟩, HBW.out.trans' hg⟩
    · go_enter Try.func41, Try.ntmps41
      go_wp2_with (first | (go_at_call 11; refine (hC.out _ hb).mono ?_; rintro e w1 ⟨rfl, hg⟩; have hT := hT.bel hg; have d1 : World.cell? _ _ = some (.string ts) := hT.cells.2; have hb := hb.trans' hg; clear hg) | (go_at_call 25; refine (hBi.out _ hb).mono ?_; rintro e w2 ⟨⟨t1, is1, hE, rfl⟩, hg⟩; obtain ⟨rfl, rfl⟩ := Prod.mk.inj hE.out; have g2 := bel_alloc w2 (.cells #[.bool t1.v, .string t1.name] 23); have hT := (hT.bel hg).bel g2; have d1 : World.cell? _ _ = some (.string ts) := hT.cells.2; have d0 : World.cell? _ _ = some (.bool tv) := hT.cells.1; have hb := (hb.trans' hg).trans' g2; clear hg g2) | (go_at_call 27; refine (hTe.out _ hb).mono ?_; rintro e w3 ⟨⟨u1, HU, rfl⟩, hg⟩; obtain rfl := HU.out; have hb := hb.trans' hg; clear hg))
      obtain ⟨wB, hwB⟩ : ∃ wB, wB = (w3.alloc (.cells #[.bool true, .string un] 23)).alloc (.cells #[.string v, .bool true, .string un] 37) := ⟨_, rfl⟩
      rw [← hwB]
      have HBB : RowKit.Hid (Bel w wB) := Lib.hid (by rw [hwB]; exact (hb.trans' (bel_alloc _ _)).trans' (bel_alloc _ _))
      have HX : RowKit.Hid (BindAt wB (w3.heap.size + 1) ⟨v, true, un⟩) := Lib.hid (by
        rw [hwB]
        have := BindAt.new (w3.alloc (.cells #[.bool true, .string un] 23)) ⟨v, true, un⟩
        rwa [show (w3.alloc (.cells #[.bool true, .string un] 23)).heap.size = w3.heap.size + 1 by simp] at this)
      clear hwB hC hBi hTe hT d1 d0 hb
      go_loopw [11, 13] (fun a11 i wr => ∃ (k : Nat) (out : List BindD) (q : Option Addr) (c : Nat), k ≤ l.length ∧ i = .int .i64 k ∧ a11 = .slice q out.length c ∧ out.length ≤ k ∧ RowKit.Hid (out = (l.take k).map (fun y => (⟨y.v, subT [⟨v, true, un⟩] y.t⟩ : BindD)) ∧ OB wB wr q c out)) (fun _ i _ => l.length - (intOf i).toNat)
      case atStart => exact ⟨0, [], none, 0, Nat.zero_le _, rfl, rfl, by simp, Lib.hid ⟨rfl, OB.nil _ (Below.refl _ _)⟩⟩
      case round =>
        obtain ⟨k, out, q, c, hk, rfl, rfl, hol, H⟩ := hrel
        have HO := Lib.hid H.out.2
        have HI := Lib.hid H.out.1
        clear H
        by_cases hlt : k < l.length
        · obtain ⟨b, o, rfl, hbb, hc⟩ := bl_get (HL.out.bel (HBB.out.trans' HO.out.bel)) (by omega)
          obtain ⟨c1, c2, c3⟩ := hc k hlt
          have hq : (0 : Int) ≤ k := by omega
          have hq2 : (k : Int) < l.length := by omega
          have HN := Lib.hid (HMA.out k hlt)
          have HLC : RowKit.Hid (∀ W, Bel wB W → W.cell? ⟨b, o + k * 3, none⟩ = some (.string l[k].v) ∧ W.cell? ⟨b, o + k * 3 + 1, none⟩ = some (.bool l[k].t.v) ∧ W.cell? ⟨b, o + k * 3 + 2, none⟩ = some (.string l[k].t.name)) := Lib.hid (fun W hg => by
            obtain ⟨b2, o2, e2, _, hc2⟩ := bl_get (HL.out.bel (HBB.out.trans' hg)) (by omega)
            injection e2 with e2
            injection e2 with e2 e3
            subst e2 e3
            exact hc2 k hlt)
          clear hc hbb
          generalize l[k] = y at c1 c2 c3 HN HLC
          obtain ⟨yv, yt⟩ := y
          simp only at c1 c2 c3
          have HOd : RowKit.Hid (OB wB wr.drew q c out) := Lib.hid (HO.out.bel' (bel_drew' (Below.refl _ _)))
          have hT := Lib.hid (rTerm4_any (some ⟨w3.heap.size + 1, 0, none⟩) [⟨v, true, un⟩] 1 1 rfl yt wr.drew ((HX.out.bel HOd.out.bel).slice) (by simp))
          go_wp2
          go_region_held3 (fun w' => w'.cell? ⟨b, o + k * 3, none⟩ = some (.string yv) ∧ w'.cell? ⟨b, o + k * 3 + 1, none⟩ = some (.bool yt.v) ∧ w'.cell? ⟨b, o + k * 3 + 2, none⟩ = some (.string yt.name)) (first | go_keep | trivial)
            (first | (go_at_call 27; refine hT.out.mono ?_; rintro e w4 ⟨⟨u, HU, rfl⟩, hg⟩; have HO4 := Lib.hid (HOd.out.bel' hg); have z1 : w4.cell? ⟨b, o + k * 3, none⟩ = some (.string yv) := cell_bel c1 ((bel_drew' (Below.refl _ _)).trans' hg); have z2 : w4.cell? ⟨b, o + k * 3 + 1, none⟩ = some (.bool yt.v) := cell_bel c2 ((bel_drew' (Below.refl _ _)).trans' hg); have z3 : w4.cell? ⟨b, o + k * 3 + 2, none⟩ = some (.string yt.name) := cell_bel c3 ((bel_drew' (Below.refl _ _)).trans' hg); clear hg) | ((refine step_pushes (by rfl) (.tmp 52) (.tmp 66) 27 Try.underlying27 (by rfl) (by rfl) (by rfl) (HO4.out.bel' (bel_alloc _ _)) ((BindAt.new w4 ⟨yv, u⟩).slice) (show List.length [_] = 1 from rfl) (by omega) ?_; intro q2 k2 w5 out2 HX2 HO5 _ _; have u1 := (HLC.out w5 HO5.out.bel).1; have u2 := (HLC.out w5 HO5.out.bel).2.1; have u3 := (HLC.out w5 HO5.out.bel).2.2)))
          all_goals go_wp2
          all_goals go_roundw
          all_goals first
            | (case rel => exact ⟨k + 1, out2, q2, k2, by omega, by go_num, rfl, (by rw [HX2.out, List.length_append, List.length_singleton]; omega), Lib.hid ⟨by rw [HX2.out, HN.out, HI.out, HU.out], HO5.out⟩⟩)
            | (simp [intOf]; omega)
        · obtain rfl : k = l.length := by omega
          have HF := Lib.hid HI.out
          have hX := HX.out.bel HO.out.bel
          have x1 : wr.cell? ⟨w3.heap.size + 1, 0, none⟩ = some (.string v) := hX.cells.1
          have x2 : wr.cell? ⟨w3.heap.size + 1, 1, none⟩ = some (.bool true) := hX.cells.2.1
          have x3 : wr.cell? ⟨w3.heap.size + 1, 2, none⟩ = some (.string un) := hX.cells.2.2
          have hP := Lib.hid (put_any q out out.length c rfl ⟨v, true, un⟩ wr (OwnL.slice EB HO.out) (by omega))
          go_wp2_with (go_at_call 49; refine hP.out.mono ?_; rintro e w6 ⟨⟨q3, c3, out3, HO3, HOB3, rfl⟩, hg⟩)
          go_ret2
          have HBW := Lib.hid (HBB.out.trans' HO.out.bel)
          exact ⟨⟨_, _, out3, 0, Lib.hid (by rw [HR.out, HO3.out, HF.out, List.take_length]), Lib.hid (HOB3.out.base HBW.out), rfl⟩, HBW.out.trans' hg⟩
end Go.Proofs.Ytkcnbdlhggoojaa
