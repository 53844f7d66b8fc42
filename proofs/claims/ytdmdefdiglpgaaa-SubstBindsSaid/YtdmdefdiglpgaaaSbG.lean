/-
  A term under bindings; whether a binding is to itself. Conditions: as each says.
-/
import Derived.Test.YtdmdefdiglpgaaaSbF
namespace Go.Proofs.Ytdmdefdiglpgaaa
open Go.RowKit

theorem sub_const {l : List BindD} {t : TermD} (h : t.v = false) : subT l t = t := by unfold subT; rw [h]; simp
theorem sub_hit {l : List BindD} {t u : TermD} (h : t.v = true) (k : getR l t.name = (u, true)) : subT l t = u := by
  unfold getR at k
  unfold subT
  rw [if_pos h]
  cases e : getB l t.name with
  | none => rw [e] at k; cases k
  | some x => rw [e] at k; injection k
theorem sub_miss {l : List BindD} {t u : TermD} (k : getR l t.name = (u, false)) : subT l t = t := by
  unfold getR at k
  unfold subT
  cases e : getB l t.name with
  | none => simp
  | some x => rw [e] at k; cases k

set_option maxHeartbeats 1000000 in
theorem Term1_any (A : Option Addr) (l : List BindD) (ca : Nat) (v : ByteArray) (b1 : Nat) (w : World) (hL : BL w A ca l) (hl : l.length ≤ 1000000) (h1 : w.cell? ⟨b1, 0, none⟩ = some (.slice A l.length ca)) :
    Calls Try.prog 52 #[.string v, .pointer (some ⟨b1, 0, none⟩)] w fun e w' => (∃ t is, RowKit.Hid ((t, is) = getR l v) ∧ e = .returned (.tuple #[.agg #[.bool t.v, .string t.name], .bool is])) ∧ Bel w w' := by
  have hZ := TermAt.new w zeroT
  have hb := bel_alloc w (.cells #[.bool zeroT.v, .string zeroT.name] 29)
  have hG := Lib.hid (Get_any A l l.length ca rfl v _ (hL.bel hb) hl)
  simp only [zeroT] at hb hG
  have c1 := cell_bel h1 hb
  clear hL h1
  go_enter Try.func52, Try.ntmps52
  go_wp2_with (first | (go_at_call 15; refine hG.out.mono ?_; rintro e w1 ⟨⟨t, is, HE, rfl⟩, hg⟩; have hZ := hZ.bel hg; have hb := hb.trans' hg; clear hg) | ((with_reducible refine wpList_store_term ?_ (.tmp 3) (.tmp 8) ?_ w.heap.size t ?_ ?_ hZ ?_); rfl; rfl; rfl; rfl; intro w3 hR hb3 _; have hb := hb.trans hb3; clear hb3))
  try simp only [Exit.inBlock, Exit.then]
  refine bodyPost_ret (results_term2 rfl _ _ _ _ rfl hR) rfl ?_
  exact ⟨⟨_, _, HE, rfl⟩, hb⟩

set_option maxHeartbeats 2000000 in
theorem replaced_T (A : Option Addr) (l : List BindD) (ca : Nat) (tv : Bool) (s : ByteArray) (b1 : Nat) (w : World) (hL : BL w A ca l) (hl : l.length ≤ 1000000) (h1 : w.cell? ⟨b1, 0, none⟩ = some (.slice A l.length ca)) :
    Calls Try.prog 51 #[.agg #[.bool tv, .string s], .func (.func 52) #[] #[.pointer (some ⟨b1, 0, none⟩)]] w fun e w' => (∃ u, RowKit.Hid (u = subT l ⟨tv, s⟩) ∧ e = .returned (.agg #[.bool u.v, .string u.name])) ∧ Bel w w' := by
  have g1 := bel_alloc w (.cells #[.bool tv, .string s] 29)
  have hT0 : TermAt (w.alloc (.cells #[.bool tv, .string s] 29)) w.heap.size ⟨tv, s⟩ := TermAt.new w ⟨tv, s⟩
  have hZ := TermAt.new (w.alloc (.cells #[.bool tv, .string s] 29)) zeroT
  rw [show (w.alloc (.cells #[.bool tv, .string s] 29)).heap.size = w.heap.size + 1 by simp] at hZ
  have g2 := bel_alloc (w.alloc (.cells #[.bool tv, .string s] 29)) (.cells #[.bool zeroT.v, .string zeroT.name] 29)
  have hT := hT0.bel g2
  have hZ0 := TermAt.new (w.alloc (.cells #[.bool tv, .string s] 29)) zeroT
  rw [show (w.alloc (.cells #[.bool tv, .string s] 29)).heap.size = w.heap.size + 1 by simp] at hZ0
  have hb := g1.trans' g2
  have hF := Lib.hid (Term1_any A l ca s b1 _ (hL.bel hb) hl (cell_bel h1 hb))
  simp only [zeroT] at hb hF hT
  clear hT0 g1 g2 hL h1
  have hlt : w.heap.size < w.heap.size + 1 := by omega
  have d0 : World.cell? _ _ = some (.bool tv) := hT.cells.1
  have d1 : World.cell? _ _ = some (.string s) := hT.cells.2
  cases tv
  · have HR := Lib.hid (sub_const (l := l) (t := ⟨false, s⟩) rfl)
    clear hF
    have hZ : TermAt ((w.alloc (.cells #[.bool false, .string s] 29)).alloc (.cells #[.bool false, .string ⟨#[]⟩] 29)) (w.heap.size + 1) zeroT := hZ0
    go_enter Try.func51, Try.ntmps51
    go_wp2_with ((with_reducible refine wpList_store_term ?_ (.tmp 4) (.tmp 10) ?_ (w.heap.size + 1) ⟨false, s⟩ ?_ ?_ hZ ?_); rfl; rfl; rfl; rfl; intro w3 hR hb3 _; have hb := hb.trans (hb3.mono (Nat.le_succ _)); clear hb3)
    try simp only [Exit.inBlock, Exit.then]
    refine bodyPost_ret (results_term rfl _ _ _ _ rfl hR) rfl ?_
    exact ⟨⟨_, Lib.hid HR.out.symm, rfl⟩, hb⟩
  · go_enter Try.func51, Try.ntmps51
    go_wp2_with (fail)
    refine hF.out.mono ?_
    rintro e w1 ⟨⟨u, is, HE, rfl⟩, hg⟩
    have hZ := hZ.bel hg
    have hT := hT.bel hg
    have hb := hb.trans' hg
    have hU := TermAt.new w1 u
    have g3 := bel_alloc w1 (.cells #[.bool u.v, .string u.name] 29)
    have hZ := hZ.bel g3
    have hT := hT.bel g3
    have hb := hb.trans' g3
    clear g3 hg d0 d1
    have d0 : World.cell? _ _ = some (.bool true) := hT.cells.1
    have d1 : World.cell? _ _ = some (.string s) := hT.cells.2
    obtain ⟨f0, f1⟩ := hU.cells
    cases is
    · have HR := Lib.hid (sub_miss (t := ⟨true, s⟩) HE.out.symm)
      go_wp2_with ((with_reducible refine wpList_store_term ?_ (.tmp 4) (.tmp 20) ?_ (w.heap.size + 1) ⟨true, s⟩ ?_ ?_ hZ ?_); rfl; rfl; rfl; rfl; intro w3 hR hb3 _; have hb := hb.trans (hb3.mono (Nat.le_succ _)); clear hb3)
      try simp only [Exit.inBlock, Exit.then]
      refine bodyPost_ret (results_term rfl _ _ _ _ rfl hR) rfl ?_
      exact ⟨⟨_, Lib.hid HR.out.symm, rfl⟩, hb⟩
    · have HR := Lib.hid (sub_hit (t := ⟨true, s⟩) rfl HE.out.symm)
      go_wp2_with ((with_reducible refine wpList_store_term ?_ (.tmp 4) (.tmp 19) ?_ (w.heap.size + 1) u ?_ ?_ hZ ?_); rfl; rfl; rfl; rfl; intro w3 hR hb3 _; have hb := hb.trans (hb3.mono (Nat.le_succ _)); clear hb3)
      try simp only [Exit.inBlock, Exit.then]
      refine bodyPost_ret (results_term rfl _ _ _ _ rfl hR) rfl ?_
      exact ⟨⟨_, Lib.hid HR.out.symm, rfl⟩, hb⟩

set_option maxHeartbeats 2000000 in
theorem replaced_G (A : Option Addr) (l : List BindD) (n ca : Nat) (hn : l.length = n) (tv : Bool) (s : ByteArray) (w : World) (hL : BL w A ca l) (hl : l.length ≤ 1000000) (hA : Asc l) :
    Calls Try.prog 51 #[.agg #[.bool tv, .string s], .func (.func 50) #[.slice A n ca] #[]] w fun e w' => (∃ u, RowKit.Hid (u = subT l ⟨tv, s⟩) ∧ e = .returned (.agg #[.bool u.v, .string u.name])) ∧ Bel w w' := by
  have g1 := bel_alloc w (.cells #[.bool tv, .string s] 29)
  have hT0 : TermAt (w.alloc (.cells #[.bool tv, .string s] 29)) w.heap.size ⟨tv, s⟩ := TermAt.new w ⟨tv, s⟩
  have hZ := TermAt.new (w.alloc (.cells #[.bool tv, .string s] 29)) zeroT
  rw [show (w.alloc (.cells #[.bool tv, .string s] 29)).heap.size = w.heap.size + 1 by simp] at hZ
  have g2 := bel_alloc (w.alloc (.cells #[.bool tv, .string s] 29)) (.cells #[.bool zeroT.v, .string zeroT.name] 29)
  have hT := hT0.bel g2
  have hZ0 := TermAt.new (w.alloc (.cells #[.bool tv, .string s] 29)) zeroT
  rw [show (w.alloc (.cells #[.bool tv, .string s] 29)).heap.size = w.heap.size + 1 by simp] at hZ0
  have hb := g1.trans' g2
  have hF := Lib.hid (get_any A l n ca hn s _ (hL.bel hb) hl hA)
  simp only [zeroT] at hb hF hT
  clear hT0 g1 g2 hL hA hn
  have hlt : w.heap.size < w.heap.size + 1 := by omega
  have d0 : World.cell? _ _ = some (.bool tv) := hT.cells.1
  have d1 : World.cell? _ _ = some (.string s) := hT.cells.2
  cases tv
  · have HR := Lib.hid (sub_const (l := l) (t := ⟨false, s⟩) rfl)
    clear hF
    have hZ : TermAt ((w.alloc (.cells #[.bool false, .string s] 29)).alloc (.cells #[.bool false, .string ⟨#[]⟩] 29)) (w.heap.size + 1) zeroT := hZ0
    go_enter Try.func51, Try.ntmps51
    go_wp2_with ((with_reducible refine wpList_store_term ?_ (.tmp 4) (.tmp 10) ?_ (w.heap.size + 1) ⟨false, s⟩ ?_ ?_ hZ ?_); rfl; rfl; rfl; rfl; intro w3 hR hb3 _; have hb := hb.trans (hb3.mono (Nat.le_succ _)); clear hb3)
    try simp only [Exit.inBlock, Exit.then]
    refine bodyPost_ret (results_term rfl _ _ _ _ rfl hR) rfl ?_
    exact ⟨⟨_, Lib.hid HR.out.symm, rfl⟩, hb⟩
  · go_enter Try.func51, Try.ntmps51
    go_wp2_with (fail)
    refine hF.out.mono ?_
    rintro e w1 ⟨⟨u, is, HE, rfl⟩, hg⟩
    have hZ := hZ.bel hg
    have hT := hT.bel hg
    have hb := hb.trans' hg
    have hU := TermAt.new w1 u
    have g3 := bel_alloc w1 (.cells #[.bool u.v, .string u.name] 29)
    have hZ := hZ.bel g3
    have hT := hT.bel g3
    have hb := hb.trans' g3
    clear g3 hg d0 d1
    have d0 : World.cell? _ _ = some (.bool true) := hT.cells.1
    have d1 : World.cell? _ _ = some (.string s) := hT.cells.2
    obtain ⟨f0, f1⟩ := hU.cells
    cases is
    · have HR := Lib.hid (sub_miss (t := ⟨true, s⟩) HE.out.symm)
      go_wp2_with ((with_reducible refine wpList_store_term ?_ (.tmp 4) (.tmp 20) ?_ (w.heap.size + 1) ⟨true, s⟩ ?_ ?_ hZ ?_); rfl; rfl; rfl; rfl; intro w3 hR hb3 _; have hb := hb.trans (hb3.mono (Nat.le_succ _)); clear hb3)
      try simp only [Exit.inBlock, Exit.then]
      refine bodyPost_ret (results_term rfl _ _ _ _ rfl hR) rfl ?_
      exact ⟨⟨_, Lib.hid HR.out.symm, rfl⟩, hb⟩
    · have HR := Lib.hid (sub_hit (t := ⟨true, s⟩) rfl HE.out.symm)
      go_wp2_with ((with_reducible refine wpList_store_term ?_ (.tmp 4) (.tmp 19) ?_ (w.heap.size + 1) u ?_ ?_ hZ ?_); rfl; rfl; rfl; rfl; intro w3 hR hb3 _; have hb := hb.trans (hb3.mono (Nat.le_succ _)); clear hb3)
      try simp only [Exit.inBlock, Exit.then]
      refine bodyPost_ret (results_term rfl _ _ _ _ rfl hR) rfl ?_
      exact ⟨⟨_, Lib.hid HR.out.symm, rfl⟩, hb⟩

theorem Term_any (A : Option Addr) (l : List BindD) (ca : Nat) (t : TermD) (w : World) (hL : BL w A ca l) (hl : l.length ≤ 1000000) :
    Calls Try.prog 17 #[.slice A l.length ca, .agg #[.bool t.v, .string t.name]] w fun e w' => (∃ u, RowKit.Hid (u = subT l t) ∧ e = .returned (.agg #[.bool u.v, .string u.name])) ∧ Bel w w' := by
  have g1 := bel_alloc w (.cells #[.slice A l.length ca] 23)
  have k1 : (w.alloc (.cells #[.slice A l.length ca] 23)).cell? ⟨w.heap.size, 0, none⟩ = some (.slice A l.length ca) := cell_of_block (heap_alloc_new w _) rfl
  have g2 := bel_alloc (w.alloc (.cells #[.slice A l.length ca] 23)) (.cells #[.bool t.v, .string t.name] 29)
  have hT := TermAt.new (w.alloc (.cells #[.slice A l.length ca] 23)) t
  rw [show (w.alloc (.cells #[.slice A l.length ca] 23)).heap.size = w.heap.size + 1 by simp] at hT
  have g3 := bel_alloc ((w.alloc (.cells #[.slice A l.length ca] 23)).alloc (.cells #[.bool t.v, .string t.name] 29)) (.cells #[.bool zeroT.v, .string zeroT.name] 29)
  have hZ := TermAt.new ((w.alloc (.cells #[.slice A l.length ca] 23)).alloc (.cells #[.bool t.v, .string t.name] 29)) zeroT
  rw [show ((w.alloc (.cells #[.slice A l.length ca] 23)).alloc (.cells #[.bool t.v, .string t.name] 29)).heap.size = w.heap.size + 2 by simp] at hZ
  have hb := (g1.trans' g2).trans' g3
  have hF := Lib.hid (replaced_T A l ca t.v t.name w.heap.size _ (hL.bel hb) hl (cell_bel (cell_bel k1 g2) g3))
  simp only [zeroT] at hb hF
  have hT := hT.bel g3
  obtain ⟨d0, d1⟩ := hT.cells
  clear g1 g2 g3 k1 hL
  go_enter Try.func17, Try.ntmps17
  go_wp2_with (first | (go_at_call 51; refine hF.out.mono ?_; rintro e w1 ⟨⟨u, HE, rfl⟩, hg⟩; have hZ := hZ.bel hg; have hb := hb.trans' hg; clear hg) | ((with_reducible refine wpList_store_term ?_ (.tmp 4) (.tmp 7) ?_ (w.heap.size + 2) u ?_ ?_ hZ ?_); rfl; rfl; rfl; rfl; intro w3 hR hb3 _; have hb := hb.trans (hb3.mono (by omega)); clear hb3))
  try simp only [Exit.inBlock, Exit.then]
  refine bodyPost_ret (results_term rfl _ _ _ _ rfl hR) rfl ?_
  exact ⟨⟨_, HE, rfl⟩, hb⟩

set_option maxHeartbeats 1000000 in
theorem self_any (b : BindD) (w : World) :
    Calls Try.prog 43 #[.agg #[.string b.v, .bool b.t.v, .string b.t.name]] w fun e w' => e = .returned (.bool (selfB b)) ∧ Bel w w' := by
  have hE : eqT ⟨b.t.v, b.t.name⟩ ⟨true, b.v⟩ = selfB b := by
    unfold selfB
    rw [Bool.eq_iff_iff, eqT_iff]
    simp
  have HE := Lib.hid hE
  have hq := eql_term
  clear hE
  go_enter Try.func43, Try.ntmps43
  go_wp2
  go_ret
  exact ⟨ret_bool HE.out, bel_alloc _ _⟩
end Go.Proofs.Ytdmdefdiglpgaaa
