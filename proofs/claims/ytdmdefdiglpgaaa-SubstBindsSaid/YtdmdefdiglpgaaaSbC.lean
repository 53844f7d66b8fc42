/-
  What a variable is bound to in an ascending list. Conditions: as each says.
-/
import Derived.Test.YtdmdefdiglpgaaaSbB
namespace Go.Proofs.Ytdmdefdiglpgaaa
open Go.RowKit

theorem TermAt.lt {w : World} {b : Nat} {t : TermD} (h : TermAt w b t) : b < w.heap.size := (Array.getElem?_eq_some_iff.1 h).1
theorem store_term {w : World} {b : Nat} {t0 : TermD} (h : TermAt w b t0) (q : TermD) : ∃ w3, (storeVar 29 ⟨b, 0, none⟩ (.agg #[.bool q.v, .string q.name])).run Try.prog w = .ok () w3 ∧ TermAt w3 b q ∧ Below b w w3 ∧ ∀ k, k ≠ b → w3.heap[k]? = w.heap[k]? :=
  ⟨_, run_storeVar_row w b 29 29 _ #[.bool q.v, .string q.name] h (by kernel_rfl) rfl (by simp [Value.oneCell']), setRow_heap w b _ _ 29 _ h, ⟨rfl, rfl, rfl, by simp [World.setRow], fun k hk => setRow_other w b k _ (by omega)⟩, fun k hk => setRow_other w b k _ hk⟩
theorem load_term {w : World} {g : Nat} {q : TermD} (h : TermAt w g q) : (loadVar 29 ⟨g, 0, none⟩).run Try.prog w = .ok (.agg #[.bool q.v, .string q.name]) w :=
  run_loadVar_row w g 29 29 _ (0, 0) _ h Try.underlying29 rfl (by kernel_rfl)
theorem results_term {fn : Func} {p : Tmp} (h : fn.results = #[.cell p 29]) (tmps : Array Value) (w : World) (g : Nat) (q : TermD) (hp : tmps.getD p undef = .pointer (some ⟨g, 0, none⟩)) (hg : TermAt w g q) :
    (results fn tmps).run Try.prog w = .ok (.agg #[.bool q.v, .string q.name]) w :=
  results_cell_row h tmps w g 29 _ (0, 0) _ hp hg Try.underlying29 rfl (by kernel_rfl)
theorem results_term2 {fn : Func} {p u : Tmp} (h : fn.results = #[.cell p 29, .tmp u]) (tmps : Array Value) (w : World) (g : Nat) (q : TermD) (hp : tmps.getD p undef = .pointer (some ⟨g, 0, none⟩)) (hg : TermAt w g q) :
    (results fn tmps).run Try.prog w = .ok (.tuple #[.agg #[.bool q.v, .string q.name], tmps.getD u undef]) w := by
  rw [results_cell_tmp h, hp]
  simp [asAddr, load_term hg, Result.andThen]
theorem wpList_store_term {ops : Array Oper} {rest : List Oper} {o : Oper} {a : Act} {w : World} {Q : Exit → Act → World → Prop} (hgd : o.guard = none) (x y : Operand) (ho : o.op = .store 29 x y) (g : Nat) (q : TermD)
    (hx : a.eval x = .pointer (some ⟨g, 0, none⟩)) (hy : a.eval y = .agg #[.bool q.v, .string q.name]) {a0 : TermD} (hg : TermAt w g a0)
    (h : ∀ w', TermAt w' g q → Below g w w' → (∀ k, k ≠ g → w'.heap[k]? = w.heap[k]?) → wpList Try.prog ops Q rest (a.put o.dst undef) w') : wpList Try.prog ops Q (o :: rest) a w := by
  obtain ⟨w3, hst, h1, h2, h3⟩ := store_term hg q
  refine wpList_plain hgd fun _ hK => ?_
  unfold Oper.wp execOp
  simp only [ho, hx, hy, Instr.storeAt, Instr.sureAddr, Sem.run_bind, Sem.run_pure, Result.andThen_ok, hst]
  exact hK _ _ (h w3 h1 h2 h3)

def getR (l : List BindD) (v : ByteArray) : TermD × Bool := match getB l v with
  | some t => (t, true)
  | none => (zeroT, false)
theorem getR_some {l : List BindD} {v : ByteArray} {t : TermD} (h : getB l v = some t) : getR l v = (t, true) := by unfold getR; rw [h]
theorem getR_none {l : List BindD} {v : ByteArray} (h : getB l v = none) : getR l v = (zeroT, false) := by unfold getR; rw [h]
theorem getR_snd (l : List BindD) (v : ByteArray) : (getR l v).2 = (getB l v).isSome := by unfold getR; cases getB l v <;> rfl
theorem get_hit {l : List BindD} {v : ByteArray} (hA : Asc l) (h : placeN l v < l.length) (e : l[placeN l v].v = v) : getB l v = some l[placeN l v].t := by
  have := getB_of_mem hA (List.getElem_mem h)
  rwa [e] at this
theorem get_miss {l : List BindD} {v : ByteArray} (hA : Asc l) (h : ∀ h : placeN l v < l.length, l[placeN l v].v ≠ v) : getB l v = none := by
  obtain ⟨s1, s2⟩ := place_split (v := v) hA
  rw [getB_none]
  intro b hb
  rw [← List.take_append_drop (placeN l v) l] at hb
  rcases List.mem_append.1 hb with hb | hb
  · exact ltS_ne (s1 b hb)
  · obtain ⟨i, hi, rfl⟩ := List.mem_iff_getElem.1 hb
    rw [List.length_drop] at hi
    have hm : placeN l v < l.length := by omega
    have h0 : ltS l[placeN l v].v v = false := s2 _ (by
      have : l[placeN l v] = (l.drop (placeN l v))[0]'(by rw [List.length_drop]; omega) := by rw [List.getElem_drop]; simp
      rw [this]; exact List.getElem_mem _)
    have hlt : ltS v l[placeN l v].v = true := by
      cases q : ltS v l[placeN l v].v with
      | true => rfl
      | false => exact absurd (ltS_tri h0 q) (h hm)
    rw [List.getElem_drop]
    by_cases e : i = 0
    · subst e; simpa using h hm
    · exact (ltS_ne (ltS_trans hlt (List.pairwise_iff_getElem.1 hA (placeN l v) (placeN l v + i) hm (by omega) (by omega)))).symm

set_option maxHeartbeats 2000000 in
theorem get_any (A : Option Addr) (l : List BindD) (n ca : Nat) (hn : l.length = n) (v : ByteArray) (w : World) (hL : BL w A ca l) (hl : l.length ≤ 1000000) (hA : Asc l) :
    Calls Try.prog 50 #[.slice A n ca, .string v] w fun e w' => (∃ t is, RowKit.Hid ((t, is) = getR l v) ∧ e = .returned (.tuple #[.agg #[.bool t.v, .string t.name], .bool is])) ∧ Bel w w' := by
  subst hn
  have HL := Lib.hid hL
  have HA := Lib.hid hA
  have HH := Lib.hid (fun h e => getR_some (get_hit (v := v) hA h e))
  have HM := Lib.hid (fun h => getR_none (get_miss (v := v) hA h))
  have hP := Lib.hid (fun W hg => place_any A l l.length ca rfl v W (hL.bel hg) hl hA)
  clear hL hA
  have hZ := TermAt.new w zeroT
  have hb := bel_alloc w (.cells #[.bool zeroT.v, .string zeroT.name] 29)
  simp only [zeroT] at hb
  have hm := placeN_le l v
  generalize hmm : placeN l v = m at hm hP HH HM
  clear hmm
  by_cases hlt : m < l.length
  · obtain ⟨b, o, rfl, hbb, hc⟩ := bl_get (HL.out.bel hb) (by omega)
    obtain ⟨c1, c2, c3⟩ := hc m hlt
    have hq : (0 : Int) ≤ m := by omega
    have hq2 : (m : Int) < l.length := by omega
    have HE := Lib.hid (fun (e : l[m].v = v) => HH.out hlt e)
    have HN := Lib.hid (fun (e : l[m].v ≠ v) => HM.out (fun _ => e))
    clear hc hbb HH HM
    by_cases e : l[m].v = v
    · have HR := Lib.hid (HE.out e)
      have he := toList_eq e
      clear e HE HN
      generalize l[m].t = t at c2 c3 HR
      generalize l[m].v = y at c1 he
      go_enter Try.func50, Try.ntmps50
      go_wp2_with (first | (go_at_call 62; refine (hP.out _ hb).mono ?_; rintro e w1 ⟨rfl, hg⟩; have hZ := hZ.bel hg; have c1 := cell_bel c1 hg; have c2 := cell_bel c2 hg; have c3 := cell_bel c3 hg; have hb := hb.trans' hg; clear hg) | ((with_reducible refine wpList_store_term ?_ (.tmp 4) (.tmp 27) ?_ w.heap.size t ?_ ?_ hZ ?_); rfl; rfl; rfl; rfl; intro w3 hR hb3 _; have hb := hb.trans hb3; clear hb3))
      try simp only [Exit.inBlock, Exit.then]
      refine bodyPost_ret (results_term2 rfl _ _ _ _ rfl hR) rfl ?_
      exact ⟨⟨_, _, Lib.hid HR.out.symm, rfl⟩, hb⟩
    · have HR := Lib.hid (HN.out e)
      have he := toList_ne e
      clear e HE HN
      generalize l[m].t = t at c2 c3
      generalize l[m].v = y at c1 he
      go_enter Try.func50, Try.ntmps50
      go_wp2_with (first | (go_at_call 62; refine (hP.out _ hb).mono ?_; rintro e w1 ⟨rfl, hg⟩; have hZ := hZ.bel hg; have c1 := cell_bel c1 hg; have hb := hb.trans' hg; clear hg) | ((with_reducible refine wpList_store_term ?_ (.tmp 4) (.tmp 28) ?_ w.heap.size zeroT ?_ ?_ hZ ?_); rfl; rfl; rfl; rfl; intro w3 hR hb3 _; have hb := hb.trans hb3; clear hb3))
      try simp only [Exit.inBlock, Exit.then]
      refine bodyPost_ret (results_term2 rfl _ _ _ _ rfl hR) rfl ?_
      exact ⟨⟨_, _, Lib.hid HR.out.symm, rfl⟩, hb⟩
  · have HR := Lib.hid (HM.out (fun h => absurd h hlt))
    have hq2 : ¬ ((m : Int) < l.length) := by omega
    clear HH HM
    go_enter Try.func50, Try.ntmps50
    go_wp2_with (first | (go_at_call 62; refine (hP.out _ hb).mono ?_; rintro e w1 ⟨rfl, hg⟩; have hZ := hZ.bel hg; have hb := hb.trans' hg; clear hg) | ((with_reducible refine wpList_store_term ?_ (.tmp 4) (.tmp 28) ?_ w.heap.size zeroT ?_ ?_ hZ ?_); rfl; rfl; rfl; rfl; intro w3 hR hb3 _; have hb := hb.trans hb3; clear hb3))
    try simp only [Exit.inBlock, Exit.then]
    refine bodyPost_ret (results_term2 rfl _ _ _ _ rfl hR) rfl ?_
    exact ⟨⟨_, _, Lib.hid HR.out.symm, rfl⟩, hb⟩
set_option maxHeartbeats 1000000 in
theorem binds_any (A : Option Addr) (l : List BindD) (n ca : Nat) (hn : l.length = n) (v : ByteArray) (w : World) (hL : BL w A ca l) (hl : l.length ≤ 1000000) (hA : Asc l) :
    Calls Try.prog 42 #[.slice A n ca, .string v] w fun e w' => e = .returned (.bool (getB l v).isSome) ∧ Bel w w' := by
  have hP := Lib.hid (get_any A l n ca hn v w hL hl hA)
  have hS := getR_snd l v
  obtain ⟨q, hq⟩ : ∃ q, q = getR l v := ⟨_, rfl⟩
  rw [← hq] at hS hP
  clear hq
  go_enter Try.func42, Try.ntmps42
  go_wp2_with (go_at_call 50; refine hP.out.mono ?_; rintro e w1 ⟨⟨t, is, hE, rfl⟩, hg⟩)
  go_ret
  exact ⟨ret_bool (by rw [← hS, ← hE.out]), hg.trans' (bel_alloc _ _)⟩
end Go.Proofs.Ytdmdefdiglpgaaa
