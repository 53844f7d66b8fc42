/-
  The reference's walks: what a variable is bound to, a term and an atom under bindings. Conditions: as each says. The reference's check of bindings. Conditions: as it says. The reference's list with one more binding. Conditions: as it says. The reference's binding of one more variable. Conditions: as it says.
-/
import Derived.Test.YtiokjjiakcbmhaaDoorSgD
namespace Go.Proofs.YtiokjjiakcbmhaaDoor
open Go.RowKit

theorem getB_take_none {l : List BindD} {k : Nat} {v : ByteArray} (hk : k < l.length) (h : getB (l.take k) v = none) (h2 : l[k].v ≠ v) : getB (l.take (k + 1)) v = none := by
  rw [List.take_add_one, List.getElem?_eq_getElem hk, getB_append, h]
  simp [getB, h2]
theorem getB_take_some {l : List BindD} {k : Nat} {v : ByteArray} (hk : k < l.length) (h : getB (l.take k) v = none) (h2 : l[k].v = v) : getB l v = some l[k].t := by
  conv => lhs; rw [← List.take_append_drop k l]
  rw [getB_append, h, List.drop_eq_getElem_cons hk]
  simp [getB, h2]
set_option maxHeartbeats 2000000 in
theorem rGet_any (A : Option Addr) (l : List BindD) (n ca : Nat) (hn : l.length = n) (v : ByteArray) (w : World) (hL : BL w A ca l) (hl : l.length ≤ 1000000) :
    Calls Tryd.prog 49 #[.slice A n ca, .string v] w fun e w' => (∃ t is, RowKit.Hid ((t, is) = getR l v) ∧ e = .returned (.tuple #[.agg #[.bool t.v, .string t.name], .bool is])) ∧ Bel w w' := by
  subst hn
  have HL := Lib.hid hL
  clear hL
  have hZ : TermAt (w.alloc (.cells #[.bool false, .string ⟨#[]⟩] 24)) w.heap.size zeroT := TermAt.new w zeroT
  have hb := bel_alloc w (.cells #[.bool false, .string ⟨#[]⟩] 24)
  have H0 := Lib.hid (And.intro hZ hb)
  clear hZ hb
  go_enter Tryd.func49, Tryd.ntmps49
  go_wp2
  go_loopw [6] (fun i wr => ∃ k : Nat, k ≤ l.length ∧ i = .int .i64 k ∧ RowKit.Hid (TermAt wr w.heap.size zeroT ∧ Bel w wr) ∧ RowKit.Hid (getB (l.take k) v = none)) (fun i _ => l.length - (intOf i).toNat)
  case atStart => exact ⟨0, Nat.zero_le _, rfl, H0, Lib.hid rfl⟩
  case round =>
    obtain ⟨k, hk, rfl, H, HN⟩ := hrel
    clear H0
    have hZ := H.out.1
    have hb := H.out.2
    by_cases hlt : k < l.length
    · obtain ⟨b, o, rfl, hbb, hc⟩ := bl_get (HL.out.bel hb) (by omega)
      obtain ⟨c1, c2, c3⟩ := hc k hlt
      have hq : (0 : Int) ≤ k := by omega
      have hq2 : (k : Int) < l.length := by omega
      clear hc hbb
      by_cases e : l[k].v = v
      · have HR := Lib.hid (getR_some (getB_take_some hlt HN.out e))
        have he := toList_eq e
        clear e
        generalize l[k].t = t at c2 c3 HR
        generalize l[k].v = y at c1 he
        go_wp2_with ((with_reducible refine wpList_store_term ?_ (.tmp 4) (.tmp 24) ?_ w.heap.size t ?_ ?_ hZ ?_); rfl; rfl; rfl; rfl; intro w3 hR hb3 _; have hb := hb.trans hb3; clear hb3)
        try simp only [Exit.inBlock, Exit.then]
        refine bodyPost_ret (results_term2 rfl _ _ _ _ rfl hR) rfl ?_
        exact ⟨⟨_, _, Lib.hid HR.out.symm, rfl⟩, hb⟩
      · have HN2 := Lib.hid (getB_take_none hlt HN.out e)
        have he := toList_ne e
        clear e
        generalize l[k].t = t at c2 c3
        generalize l[k].v = y at c1 he
        go_wp2
        go_roundw
        case rel => exact ⟨k + 1, by omega, by go_num, H, HN2⟩
        case measure => simp [intOf]; omega
    · obtain rfl : k = l.length := by omega
      have HR : RowKit.Hid (getR l v = (zeroT, false)) := Lib.hid (getR_none (by have := HN.out; rwa [List.take_length] at this))
      go_wp2_with ((with_reducible refine wpList_store_term ?_ (.tmp 4) (.tmp 25) ?_ w.heap.size zeroT ?_ ?_ hZ ?_); rfl; rfl; rfl; rfl; intro w3 hR hb3 _; have hb := hb.trans hb3; clear hb3)
      try simp only [Exit.inBlock, Exit.then]
      refine bodyPost_ret (results_term2 rfl _ _ _ _ rfl hR) rfl ?_
      exact ⟨⟨_, _, Lib.hid HR.out.symm, rfl⟩, hb⟩

set_option maxHeartbeats 2000000 in
theorem rTerm4_any (A : Option Addr) (l : List BindD) (n ca : Nat) (hn : l.length = n) (t : TermD) (w : World) (hL : BL w A ca l) (hl : l.length ≤ 1000000) :
    Calls Tryd.prog 40 #[.slice A n ca, .agg #[.bool t.v, .string t.name]] w fun e w' => (∃ u, RowKit.Hid (u = subT l t) ∧ e = .returned (.agg #[.bool u.v, .string u.name])) ∧ Bel w w' := by
  obtain ⟨tv, s⟩ := t
  have g1 := bel_alloc w (.cells #[.bool tv, .string s] 24)
  have hT0 : TermAt (w.alloc (.cells #[.bool tv, .string s] 24)) w.heap.size ⟨tv, s⟩ := TermAt.new w ⟨tv, s⟩
  have g2 := bel_alloc (w.alloc (.cells #[.bool tv, .string s] 24)) (.cells #[.bool false, .string ⟨#[]⟩] 24)
  have hT := hT0.bel g2
  have hZ : TermAt ((w.alloc (.cells #[.bool tv, .string s] 24)).alloc (.cells #[.bool false, .string ⟨#[]⟩] 24)) (w.heap.size + 1) zeroT := by
    have := TermAt.new (w.alloc (.cells #[.bool tv, .string s] 24)) zeroT
    rwa [show (w.alloc (.cells #[.bool tv, .string s] 24)).heap.size = w.heap.size + 1 by simp] at this
  have hb := g1.trans' g2
  have hF := Lib.hid (rGet_any A l n ca hn s _ (hL.bel hb) hl)
  clear hT0 g1 g2 hL hn
  have hlt : w.heap.size < w.heap.size + 1 := by omega
  have d0 : World.cell? _ _ = some (.bool tv) := hT.cells.1
  have d1 : World.cell? _ _ = some (.string s) := hT.cells.2
  cases tv
  · have HR := Lib.hid (sub_const (l := l) (t := ⟨false, s⟩) rfl)
    clear hF
    go_enter Tryd.func40, Tryd.ntmps40
    go_wp2_with ((with_reducible refine wpList_store_term ?_ (.tmp 4) (.tmp 18) ?_ (w.heap.size + 1) ⟨false, s⟩ ?_ ?_ hZ ?_); rfl; rfl; rfl; rfl; intro w3 hR hb3 _; have hb := hb.trans (hb3.mono (Nat.le_succ _)); clear hb3)
    try simp only [Exit.inBlock, Exit.then]
    refine bodyPost_ret (results_term rfl _ _ _ _ rfl hR) rfl ?_
    exact ⟨⟨_, Lib.hid HR.out.symm, rfl⟩, hb⟩
  · go_enter Tryd.func40, Tryd.ntmps40
    go_wp2_with (fail)
    refine hF.out.mono ?_
    rintro e w1 ⟨⟨u, is, HE, rfl⟩, hg⟩
    have hZ := hZ.bel hg
    have hT := hT.bel hg
    have hb := hb.trans' hg
    have hU := TermAt.new w1 u
    have g3 := bel_alloc w1 (.cells #[.bool u.v, .string u.name] 24)
    have hZ := hZ.bel g3
    have hT := hT.bel g3
    have hb := hb.trans' g3
    clear g3 hg d0 d1
    have d0 : World.cell? _ _ = some (.bool true) := hT.cells.1
    have d1 : World.cell? _ _ = some (.string s) := hT.cells.2
    obtain ⟨f0, f1⟩ := hU.cells
    cases is
    · have HR := Lib.hid (sub_miss (t := ⟨true, s⟩) HE.out.symm)
      go_wp2_with ((with_reducible refine wpList_store_term ?_ (.tmp 4) (.tmp 18) ?_ (w.heap.size + 1) ⟨true, s⟩ ?_ ?_ hZ ?_); rfl; rfl; rfl; rfl; intro w3 hR hb3 _; have hb := hb.trans (hb3.mono (Nat.le_succ _)); clear hb3)
      try simp only [Exit.inBlock, Exit.then]
      refine bodyPost_ret (results_term rfl _ _ _ _ rfl hR) rfl ?_
      exact ⟨⟨_, Lib.hid HR.out.symm, rfl⟩, hb⟩
    · have HR := Lib.hid (sub_hit (t := ⟨true, s⟩) rfl HE.out.symm)
      go_wp2_with ((with_reducible refine wpList_store_term ?_ (.tmp 4) (.tmp 17) ?_ (w.heap.size + 1) u ?_ ?_ hZ ?_); rfl; rfl; rfl; rfl; intro w3 hR hb3 _; have hb := hb.trans (hb3.mono (Nat.le_succ _)); clear hb3)
      try simp only [Exit.inBlock, Exit.then]
      refine bodyPost_ret (results_term rfl _ _ _ _ rfl hR) rfl ?_
      exact ⟨⟨_, Lib.hid HR.out.symm, rfl⟩, hb⟩

set_option maxRecDepth 20000 in
set_option maxHeartbeats 4000000 in
theorem rApply_any (A : Option Addr) (l : List BindD) (ca : Nat) (a : AtomD) (w : World) (hL : BL w A ca l) (hl : l.length ≤ 1000000) :
    Calls Tryd.prog 21 #[.slice A l.length ca, .agg #[.string a.says, .string a.pred, .int .i64 a.n, .bool a.t0.v, .string a.t0.name, .bool a.t1.v, .string a.t1.name, .bool a.t2.v, .string a.t2.name, .bool a.t3.v, .string a.t3.name]] w fun e w' => (∃ q, RowKit.Hid (q = applyA l a) ∧ e = .returned (.agg #[.string q.says, .string q.pred, .int .i64 q.n, .bool q.t0.v, .string q.t0.name, .bool q.t1.v, .string q.t1.name, .bool q.t2.v, .string q.t2.name, .bool q.t3.v, .string q.t3.name])) ∧ Bel w w' := by
  have HL := Lib.hid hL
  clear hL
  have g1 := bel_alloc w (.cells #[.string a.says, .string a.pred, .int .i64 a.n, .bool a.t0.v, .string a.t0.name, .bool a.t1.v, .string a.t1.name, .bool a.t2.v, .string a.t2.name, .bool a.t3.v, .string a.t3.name] 27)
  have hA := AtomAt.new w a
  have g2 := bel_alloc (w.alloc (.cells #[.string a.says, .string a.pred, .int .i64 a.n, .bool a.t0.v, .string a.t0.name, .bool a.t1.v, .string a.t1.name, .bool a.t2.v, .string a.t2.name, .bool a.t3.v, .string a.t3.name] 27)) (.cells #[.string zeroA.says, .string zeroA.pred, .int .i64 zeroA.n, .bool zeroA.t0.v, .string zeroA.t0.name, .bool zeroA.t1.v, .string zeroA.t1.name, .bool zeroA.t2.v, .string zeroA.t2.name, .bool zeroA.t3.v, .string zeroA.t3.name] 27)
  have hZ := AtomAt.new (w.alloc (.cells #[.string a.says, .string a.pred, .int .i64 a.n, .bool a.t0.v, .string a.t0.name, .bool a.t1.v, .string a.t1.name, .bool a.t2.v, .string a.t2.name, .bool a.t3.v, .string a.t3.name] 27)) zeroA
  rw [show (w.alloc (.cells #[.string a.says, .string a.pred, .int .i64 a.n, .bool a.t0.v, .string a.t0.name, .bool a.t1.v, .string a.t1.name, .bool a.t2.v, .string a.t2.name, .bool a.t3.v, .string a.t3.name] 27)).heap.size = w.heap.size + 1 by simp] at hZ
  have hA := hA.bel g2
  have hb := g1.trans' g2
  simp only [zeroA, zeroT] at hb hA
  have HB0 := Lib.hid hb
  have HA0 := Lib.hid hA
  have HZ0 := Lib.hid hZ
  have hc4 := cntI_le a.n
  clear g1 g2 hb hA hZ
  go_enter Tryd.func21, Tryd.ntmps21
  go_wp2_with (fail)
  go_loopw [5] (fun i wr => ∃ k : Nat, k ≤ cntI a.n ∧ i = .int .i64 k ∧ RowKit.Hid (Bel w wr ∧ AtomAt wr w.heap.size (appK l a k) ∧ AtomAt wr (w.heap.size + 1) zeroA)) (fun i _ => cntI a.n - (intOf i).toNat)
  case atStart => exact ⟨0, Nat.zero_le _, rfl, Lib.hid ⟨HB0.out, HA0.out, HZ0.out⟩⟩
  case round =>
    obtain ⟨k, hk, rfl, H⟩ := hrel
    clear HB0 HA0 HZ0
    have hA := H.out.2.1
    have hb := H.out.1
    have hZ := H.out.2.2
    clear H
    obtain ⟨q, hq⟩ : ∃ q, q = appK l a k := ⟨_, rfl⟩
    have HC : RowKit.Hid (cntI q.n = cntI a.n) := Lib.hid (by rw [hq]; rfl)
    have hAq := hA
    rw [← hq] at hAq
    have HQ0 := Lib.hid hq
    clear hq
    obtain ⟨f0, f1, f2, f3, f4, f5, f6, f7, f8, f9, f10⟩ := hAq.cells
    have hlt2 : w.heap.size < w.heap.size + 1 := by omega
    go_wp2_with (fail)
    refine (rCount_any _ _ _ _ _ _ _ _ _ _ _ _).mono ?_
    rw [HC.out]
    rintro e w1 ⟨rfl, hg⟩
    have hA := hA.bel hg
    have hAq := hAq.bel hg
    have hZ := hZ.bel hg
    have hb := hb.trans' hg
    clear hg f0 f1 f2 f3 f4 f5 f6 f7 f8 f9 f10
    generalize hcc : cntI a.n = c at hc4 hk ⊢
    have HCC := Lib.hid hcc
    clear hcc
    by_cases hlt : k < c
    · have hk4 : k < 4 := by omega
      have hq : (0 : Int) ≤ k := by omega
      have hq1 : (k : Int) < 4 := by omega
      have hq2 : (k : Int) < c := by omega
      obtain ⟨t, ht⟩ := args_some a k hk4
      obtain ⟨e1, e2⟩ := appK_step l a k hk4 t ht
      have HS := Lib.hid e2
      obtain ⟨_, _, e3, _, c1, c2⟩ := hA.terms k (by exact hk4)
      injection e3 with e3
      injection e3 with e3 e4
      subst e3 e4
      have e5 : (argsD (appK l a k))[k]'(by exact hk4) = t := by
        rw [List.getElem?_eq_getElem (by exact hk4)] at e1
        injection e1
      rw [e5] at c1 c2
      clear e1 e2 e5 ht
      have hT := Lib.hid (rTerm4_any A l l.length ca rfl t w1 (HL.out.bel hb) hl)
      obtain ⟨tv, ts⟩ := t
      simp only at c1 c2
      go_wp2_with (first | (go_at_call 40; refine hT.out.mono ?_; rintro e w2 ⟨⟨u, HU, rfl⟩, hg⟩; have hA := hA.bel hg; have hZ := hZ.bel hg; have hb := hb.trans' hg; clear hg) | ((with_reducible refine wpList_store_arg ?_ (.tmp 20) (.tmp 18) ?_ w.heap.size k u ?_ ?_ hA hk4 ?_); rfl; rfl; rfl; rfl; intro w3 hA3 hb3 ho3))
      go_roundw
      case rel =>
        refine ⟨k + 1, by have := HCC.out; omega, by go_num, Lib.hid ⟨hb.trans hb3, ?_, (ho3 _ (by omega)).trans hZ⟩⟩
        rw [← HS.out, ← HU.out]; exact hA3
      case measure => simp [intOf]; have := HCC.out; omega
    · obtain rfl : k = c := by omega
      have HQ2 : RowKit.Hid (q = applyA l a) := Lib.hid (by rw [HQ0.out, ← HCC.out]; rfl)
      obtain ⟨f0, f1, f2, f3, f4, f5, f6, f7, f8, f9, f10⟩ := hAq.cells
      go_wp2_with ((with_reducible refine wpList_store_atom ?_ (.tmp 4) (.tmp 21) ?_ (w.heap.size + 1) q ?_ ?_ hZ ?_); rfl; rfl; rfl; rfl; intro w3 hR hb3 _; have hb := hb.trans (hb3.mono (Nat.le_succ _)); clear hb3)
      try simp only [Exit.inBlock, Exit.then]
      refine bodyPost_ret (results_atom rfl _ _ _ _ rfl hR) rfl ?_
      exact ⟨⟨_, HQ2, rfl⟩, hb⟩
end Go.Proofs.YtiokjjiakcbmhaaDoor
namespace Go.Proofs.YtiokjjiakcbmhaaDoor
open Go.RowKit

def AdjB (l : List BindD) (k : Nat) : Prop := ∀ j (h : j + 1 < l.length), j + 1 < k → ltB l[j] l[j + 1] = true
theorem adj_zero (l : List BindD) : AdjB l 0 := fun j _ h => by omega
theorem adj_one (l : List BindD) : AdjB l 1 := fun j _ h => by omega
theorem adj_succ {l : List BindD} {m : Nat} (hm : m + 1 < l.length) (h : AdjB l (m + 1)) (h2 : ltB l[m] l[m + 1] = true) : AdjB l (m + 1 + 1) := fun j hj hk => by
  by_cases e : j = m
  · subst e; exact h2
  · exact h j hj (by omega)
theorem adj_asc {l : List BindD} (h : AdjB l l.length) : Asc l := asc_of_up l (fun j hj => h j hj hj)
theorem adj_not {l : List BindD} {m : Nat} (hm : m + 1 < l.length) (h2 : ltB l[m] l[m + 1] = false) : errB l = 15 := err_asc (fun h => by
  have := asc_adj h m hm
  rw [h2] at this; cases this)

end Go.Proofs.YtiokjjiakcbmhaaDoor
namespace Go.Proofs.YtiokjjiakcbmhaaDoor
open Go.RowKit

theorem put_not : ∀ {l : List BindD} {b : BindD}, (∀ x ∈ l, ltS b.v x.v = false) → putB l b = l ++ [b]
  | [], b, _ => rfl
  | y :: l, b, h => by
    rw [putB_cons, if_neg (by simp [h y (List.mem_cons_self ..)]), put_not (fun x hx => h x (List.mem_cons_of_mem _ hx))]
    rfl
theorem put_app_in : ∀ {l : List BindD} {b : BindD} (y : BindD), (∃ x ∈ l, ltS b.v x.v = true) → putB (l ++ [y]) b = putB l b ++ [y]
  | [], b, y, h => by obtain ⟨x, hx, _⟩ := h; cases hx
  | z :: l, b, y, h => by
    rw [List.cons_append, putB_cons, putB_cons]
    by_cases hz : ltS b.v z.v = true
    · rw [if_pos hz, if_pos hz]; rfl
    · rw [if_neg hz, if_neg hz, put_app_in y (by
        obtain ⟨x, hx, hh⟩ := h
        rcases List.mem_cons.1 hx with rfl | hx
        · exact absurd hh hz
        · exact ⟨x, hx, hh⟩)]
      rfl
theorem put_app_new : ∀ {l : List BindD} {b y : BindD}, (∀ x ∈ l, ltS b.v x.v = false) → ltS b.v y.v = true → putB (l ++ [y]) b = l ++ [b] ++ [y]
  | [], b, y, _, h => by show (if ltS b.v y.v then b :: y :: [] else y :: putB [] b) = _; rw [if_pos h]; rfl
  | z :: l, b, y, h, hy => by
    rw [List.cons_append, putB_cons, if_neg (by simp [h z (List.mem_cons_self ..)]), put_app_new (fun x hx => h x (List.mem_cons_of_mem _ hx)) hy]
    rfl
def InvP (l : List BindD) (b : BindD) (k : Nat) (inn : Bool) (out : List BindD) : Prop :=
  if inn then (∃ x ∈ l.take k, ltS b.v x.v = true) ∧ out = putB (l.take k) b else (∀ x ∈ l.take k, ltS b.v x.v = false) ∧ out = l.take k
theorem take_one {l : List BindD} {k : Nat} {x : BindD} (h : l[k]? = some x) : l.take (k + 1) = l.take k ++ [x] := by rw [List.take_add_one, h]; rfl
theorem invP_zero (l : List BindD) (b : BindD) : InvP l b 0 false [] := by simp [InvP]
theorem invP_no {l : List BindD} {b : BindD} {k : Nat} {out : List BindD} {x : BindD} (hx : l[k]? = some x) (h : InvP l b k false out) (hn : ltS b.v x.v = false) : InvP l b (k + 1) false (out ++ [x]) := by
  unfold InvP at h ⊢
  simp only [Bool.false_eq_true, if_false] at h ⊢
  rw [take_one hx]
  refine ⟨fun y hy => ?_, by rw [h.2]⟩
  rcases List.mem_append.1 hy with hy | hy
  · exact h.1 y hy
  · obtain rfl := List.mem_singleton.1 hy; exact hn
theorem invP_new {l : List BindD} {b : BindD} {k : Nat} {out : List BindD} {x : BindD} (hx : l[k]? = some x) (h : InvP l b k false out) (hn : ltS b.v x.v = true) : InvP l b (k + 1) true (out ++ [b] ++ [x]) := by
  unfold InvP at h ⊢
  simp only [Bool.false_eq_true, if_false, if_true] at h ⊢
  rw [take_one hx]
  exact ⟨⟨x, by simp, hn⟩, by rw [put_app_new h.1 hn, h.2]⟩
theorem invP_in {l : List BindD} {b : BindD} {k : Nat} {out : List BindD} {x : BindD} (hx : l[k]? = some x) (h : InvP l b k true out) : InvP l b (k + 1) true (out ++ [x]) := by
  unfold InvP at h ⊢
  simp only [if_true] at h ⊢
  rw [take_one hx]
  refine ⟨?_, by rw [put_app_in x h.1, h.2]⟩
  obtain ⟨y, hy, hh⟩ := h.1
  exact ⟨y, List.mem_append_left _ hy, hh⟩
theorem invP_end_no {l : List BindD} {b : BindD} {out : List BindD} (h : InvP l b l.length false out) : putB l b = out ++ [b] := by
  unfold InvP at h
  simp only [Bool.false_eq_true, if_false, List.take_length] at h
  rw [put_not h.1, h.2]
theorem invP_end_in {l : List BindD} {b : BindD} {out : List BindD} (h : InvP l b l.length true out) : putB l b = out := by
  unfold InvP at h
  simp only [if_true, List.take_length] at h
  exact h.2.symm

end Go.Proofs.YtiokjjiakcbmhaaDoor
namespace Go.Proofs.YtiokjjiakcbmhaaDoor
open Go.RowKit

end Go.Proofs.YtiokjjiakcbmhaaDoor
