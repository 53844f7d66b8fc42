/-
  Finding in an ascending list. Conditions: as each says. What a variable is bound to in an ascending list. Conditions: as each says. What a variable is bound to in any list; a term under bindings. Conditions: as each says. A term under bindings; whether a binding is to itself. Conditions: as each says. Which bindings are valid; an atom under bindings. Conditions: as each says. An atom under bindings. Conditions: as each says.
-/
import Derived.Test.YtkcnbdlhggoojaaDoorSgA
import Derived.Test.YtkcnbdlhggoojaaDoorTmMa
import Derived.Laws.ResultCell
namespace Go.Proofs.YtkcnbdlhggoojaaDoor
open Go.RowKit

set_option maxHeartbeats 1000000 in
theorem place1_any (A : Option Addr) (l : List BindD) (ca : Nat) (x : ByteArray) (b1 b2 i : Nat) (w : World) (hL : BL w A ca l) (hi : i < l.length) (hl : l.length ≤ 1000000)
    (h1 : w.cell? ⟨b1, 0, none⟩ = some (.slice A l.length ca)) (h2 : w.cell? ⟨b2, 0, none⟩ = some (.string x)) :
    Calls Tryd.prog 67 #[.int .i64 i, .pointer (some ⟨b1, 0, none⟩), .pointer (some ⟨b2, 0, none⟩)] w fun e w' => e = .returned (.bool (!ltS l[i].v x)) ∧ Bel w w' := by
  obtain ⟨b, o, rfl, hb, hc⟩ := bl_get hL (by omega)
  obtain ⟨c1, _, _⟩ := hc i hi
  clear hc hb hL
  have hE : ltS l[i].v x = Op.bytesLess l[i].v.toList x.toList := rfl
  rw [hE]
  clear hE
  generalize l[i].v = y at c1 ⊢
  have hq : (0 : Int) ≤ i := by omega
  have hq2 : (i : Int) < l.length := by omega
  go_enter Tryd.func67, Tryd.ntmps67
  go_wp2
  go_quiet (fail)
  go_wp2
  all_goals go_ret
  all_goals exact ⟨by simp_all, bel_drewN _ _⟩

set_option maxHeartbeats 2000000 in
/-- sort.Search over the closure of place, at an ascending list -/
theorem search_any (A : Option Addr) (l : List BindD) (ca : Nat) (x : ByteArray) (b1 b2 : Nat) (w : World) (hL : BL w A ca l) (hl : l.length ≤ 1000000) (hA : Asc l)
    (h1 : w.cell? ⟨b1, 0, none⟩ = some (.slice A l.length ca)) (h2 : w.cell? ⟨b2, 0, none⟩ = some (.string x)) :
    Calls Tryd.prog 66 #[.int .i64 l.length, .func (.func 67) #[] #[.pointer (some ⟨b1, 0, none⟩), .pointer (some ⟨b2, 0, none⟩)]] w fun e w' => e = .returned (.int .i64 (placeN l x)) ∧ Bel w w' := by
  have HL := Lib.hid hL
  have H1 := Lib.hid h1
  have H2 := Lib.hid h2
  have HA := Lib.hid hA
  clear hL h1 h2 hA
  have hmono : ∀ i j (hi : i < l.length) (hj : j < l.length), i ≤ j → ltS l[j].v x = true → ltS l[i].v x = true := fun i j hi hj hij h => by
    by_cases e : i = j
    · subst e; exact h
    · exact ltS_trans (List.pairwise_iff_getElem.1 HA.out i j hi hj (by omega)) h
  have HM := Lib.hid hmono
  clear hmono
  go_enter Tryd.func66, Tryd.ntmps66
  go_wp2
  go_loopw [5, 6] (fun s5 s6 wr => ∃ lo hi : Nat, s5 = .int .i64 lo ∧ s6 = .int .i64 hi ∧ lo ≤ hi ∧ hi ≤ l.length ∧ RowKit.Hid (Bel w wr) ∧ RowKit.Hid ((∀ t (h : t < l.length), t < lo → ltS l[t].v x = true) ∧ (∀ t (h : t < l.length), hi ≤ t → ltS l[t].v x = false))) (fun s5 s6 _ => ((intOf s6) - (intOf s5)).toNat)
  case atStart => exact ⟨0, l.length, rfl, rfl, Nat.zero_le _, Nat.le_refl _, Lib.hid (Below.refl _ _), Lib.hid ⟨fun t _ h => by omega, fun t h h2 => by omega⟩⟩
  case round =>
    obtain ⟨lo, hi, rfl, rfl, hlh, hhi, HB, HI⟩ := hrel
    by_cases hlt : lo < hi
    · have hmid : (lo + hi) / 2 < l.length := by omega
      have hc := place1_any A l ca x b1 b2 ((lo + hi) / 2) wr (HL.out.bel HB.out) hmid hl (cell_bel H1.out HB.out) (cell_bel H2.out HB.out)
      rw [show (((lo + hi) / 2 : Nat) : Int) = ((lo : Int) + (hi : Int)) / 2 by omega] at hc
      cases hp : ltS l[(lo + hi) / 2].v x <;> rw [hp] at hc
      · have HI2 : RowKit.Hid ((∀ t (h : t < l.length), t < lo → ltS l[t].v x = true) ∧ (∀ t (h : t < l.length), (lo + hi) / 2 ≤ t → ltS l[t].v x = false)) := Lib.hid ⟨HI.out.1, fun t h h2 => by
          cases q : ltS l[t].v x with
          | false => rfl
          | true => have := HM.out ((lo + hi) / 2) t hmid h h2 q; rw [hp] at this; cases this⟩
        clear hp
        go_wp2_with (go_at_call 67; refine hc.mono ?_; rintro e w' ⟨rfl, hg⟩; have HB := Lib.hid (HB.out.trans' hg); clear hg)
        go_roundw
        case rel => exact ⟨lo, (lo + hi) / 2, rfl, by rw [show ((lo : Int) + (hi : Int)) / 2 = (((lo + hi) / 2 : Nat) : Int) by omega], by omega, by omega, HB, HI2⟩
        case measure => simp [intOf]; omega
      · have HI2 : RowKit.Hid ((∀ t (h : t < l.length), t < (lo + hi) / 2 + 1 → ltS l[t].v x = true) ∧ (∀ t (h : t < l.length), hi ≤ t → ltS l[t].v x = false)) := Lib.hid ⟨fun t h h2 => HM.out t ((lo + hi) / 2) h hmid (by omega) hp, HI.out.2⟩
        clear hp
        go_wp2_with (go_at_call 67; refine hc.mono ?_; rintro e w' ⟨rfl, hg⟩; have HB := Lib.hid (HB.out.trans' hg); clear hg)
        go_roundw
        case rel => exact ⟨(lo + hi) / 2 + 1, hi, by rw [show ((lo : Int) + (hi : Int)) / 2 + 1 = (((lo + hi) / 2 + 1 : Nat) : Int) by omega], rfl, by omega, by omega, HB, HI2⟩
        case measure => simp [intOf]; omega
    · obtain rfl : hi = lo := by omega
      have HP : RowKit.Hid (hi = placeN l x) := Lib.hid (place_only hhi (fun i h h2 => HI.out.1 i h h2) (fun i h h2 => HI.out.2 i h h2)).symm
      go_wp2
      go_ret
      exact ⟨ret_int (congrArg Int.ofNat HP.out), HB.out⟩

set_option maxHeartbeats 1000000 in
theorem place_any (A : Option Addr) (l : List BindD) (n ca : Nat) (hn : l.length = n) (x : ByteArray) (w : World) (hL : BL w A ca l) (hl : l.length ≤ 1000000) (hA : Asc l) :
    Calls Tryd.prog 55 #[.slice A n ca, .string x] w fun e w' => e = .returned (.int .i64 (placeN l x)) ∧ Bel w w' := by
  subst hn
  have g1 := bel_alloc w (.cells #[.slice A l.length ca] 69)
  have g2 := bel_alloc (w.alloc (.cells #[.slice A l.length ca] 69)) (.cells #[.string x] 9)
  have k1 : (w.alloc (.cells #[.slice A l.length ca] 69)).cell? ⟨w.heap.size, 0, none⟩ = some (.slice A l.length ca) := cell_of_block (heap_alloc_new w _) rfl
  have k2 : ((w.alloc (.cells #[.slice A l.length ca] 69)).alloc (.cells #[.string x] 9)).cell? ⟨w.heap.size + 1, 0, none⟩ = some (.string x) := by
    have := cell_of_block (j := 0) (v := .string x) (heap_alloc_new (w.alloc (.cells #[.slice A l.length ca] 69)) (.cells #[.string x] 9)) rfl
    rwa [show (w.alloc (.cells #[.slice A l.length ca] 69)).heap.size = w.heap.size + 1 by simp] at this
  have hS := search_any A l ca x w.heap.size (w.heap.size + 1) _ ((hL.bel g1).bel g2) hl hA (cell_bel k1 g2) k2
  have HG := Lib.hid (g1.trans' g2)
  clear k1 k2 g1 g2 hL hA
  generalize placeN l x = r at hS ⊢
  go_enter Tryd.func55, Tryd.ntmps55
  go_wp2_with (go_at_call 66; refine hS.mono ?_; rintro e w' ⟨rfl, hg⟩)
  go_ret
  exact ⟨rfl, HG.out.trans' hg⟩
end Go.Proofs.YtkcnbdlhggoojaaDoor
namespace Go.Proofs.YtkcnbdlhggoojaaDoor
open Go.RowKit

theorem TermAt.lt {w : World} {b : Nat} {t : TermD} (h : TermAt w b t) : b < w.heap.size := (Array.getElem?_eq_some_iff.1 h).1
theorem store_term {w : World} {b : Nat} {t0 : TermD} (h : TermAt w b t0) (q : TermD) : ∃ w3, (storeVar 27 ⟨b, 0, none⟩ (.agg #[.bool q.v, .string q.name])).run Tryd.prog w = .ok () w3 ∧ TermAt w3 b q ∧ Below b w w3 ∧ ∀ k, k ≠ b → w3.heap[k]? = w.heap[k]? :=
  ⟨_, run_storeVar_row w b 27 27 _ #[.bool q.v, .string q.name] h (by kernel_rfl) rfl (by simp [Value.oneCell']), setRow_heap w b _ _ 27 _ h, ⟨rfl, rfl, rfl, by simp [World.setRow], fun k hk => setRow_other w b k _ (by omega)⟩, fun k hk => setRow_other w b k _ hk⟩
theorem load_term {w : World} {g : Nat} {q : TermD} (h : TermAt w g q) : (loadVar 27 ⟨g, 0, none⟩).run Tryd.prog w = .ok (.agg #[.bool q.v, .string q.name]) w :=
  run_loadVar_row w g 27 27 _ (0, 0) _ h Tryd.underlying27 rfl (by kernel_rfl)
theorem results_term {fn : Func} {p : Tmp} (h : fn.results = #[.cell p 27]) (tmps : Array Value) (w : World) (g : Nat) (q : TermD) (hp : tmps.getD p undef = .pointer (some ⟨g, 0, none⟩)) (hg : TermAt w g q) :
    (results fn tmps).run Tryd.prog w = .ok (.agg #[.bool q.v, .string q.name]) w :=
  results_cell_row h tmps w g 27 _ (0, 0) _ hp hg Tryd.underlying27 rfl (by kernel_rfl)
theorem results_term2 {fn : Func} {p u : Tmp} (h : fn.results = #[.cell p 27, .tmp u]) (tmps : Array Value) (w : World) (g : Nat) (q : TermD) (hp : tmps.getD p undef = .pointer (some ⟨g, 0, none⟩)) (hg : TermAt w g q) :
    (results fn tmps).run Tryd.prog w = .ok (.tuple #[.agg #[.bool q.v, .string q.name], tmps.getD u undef]) w := by
  rw [results_cell_tmp h, hp]
  simp [asAddr, load_term hg, Result.andThen]
theorem wpList_store_term {ops : Array Oper} {rest : List Oper} {o : Oper} {a : Act} {w : World} {Q : Exit → Act → World → Prop} (hgd : o.guard = none) (x y : Operand) (ho : o.op = .store 27 x y) (g : Nat) (q : TermD)
    (hx : a.eval x = .pointer (some ⟨g, 0, none⟩)) (hy : a.eval y = .agg #[.bool q.v, .string q.name]) {a0 : TermD} (hg : TermAt w g a0)
    (h : ∀ w', TermAt w' g q → Below g w w' → (∀ k, k ≠ g → w'.heap[k]? = w.heap[k]?) → wpList Tryd.prog ops Q rest (a.put o.dst undef) w') : wpList Tryd.prog ops Q (o :: rest) a w := by
  obtain ⟨w3, hst, h1, h2, h3⟩ := store_term hg q
  refine wpList_plain hgd fun _ hK => ?_
  unfold Oper.wp execOp
  simp only [ho, hx, hy, Instr.storeAt, Instr.sureAddr, Sem.run_bind, Sem.run_pure, Result.andThen_ok, hst]
  exact hK _ _ (h w3 h1 h2 h3)

def getR (l : List BindD) (v : ByteArray) : TermD × Bool := match getB l v with
  | some t => (t, true)
  | none => (zeroT, false)
theorem getR_some {l : List BindD} {v : ByteArray} {t : TermD} (h : getB l v = some t) : getR l v = (t, true) := by unfold getR; rw [h]
theorem getR_none {l : List BindD} {v : ByteArray} (h : getB l v = none) : getR l v = (zeroT, false) := by unfold getR; rw [h]
theorem getR_snd (l : List BindD) (v : ByteArray) : (getR l v).2 = (getB l v).isSome := by unfold getR; cases getB l v <;> rfl
theorem get_hit {l : List BindD} {v : ByteArray} (hA : Asc l) (h : placeN l v < l.length) (e : l[placeN l v].v = v) : getB l v = some l[placeN l v].t := by
  have := getB_of_mem hA (List.getElem_mem h)
  rwa [e] at this
theorem get_miss {l : List BindD} {v : ByteArray} (hA : Asc l) (h : ∀ h : placeN l v < l.length, l[placeN l v].v ≠ v) : getB l v = none := by
  obtain ⟨s1, s2⟩ := place_split (v := v) hA
  rw [getB_none]
  intro b hb
  rw [← List.take_append_drop (placeN l v) l] at hb
  rcases List.mem_append.1 hb with hb | hb
  · exact ltS_ne (s1 b hb)
  · obtain ⟨i, hi, rfl⟩ := List.mem_iff_getElem.1 hb
    rw [List.length_drop] at hi
    have hm : placeN l v < l.length := by omega
    have h0 : ltS l[placeN l v].v v = false := s2 _ (by
      have : l[placeN l v] = (l.drop (placeN l v))[0]'(by rw [List.length_drop]; omega) := by rw [List.getElem_drop]; simp
      rw [this]; exact List.getElem_mem _)
    have hlt : ltS v l[placeN l v].v = true := by
      cases q : ltS v l[placeN l v].v with
      | true => rfl
      | false => exact absurd (ltS_tri h0 q) (h hm)
    rw [List.getElem_drop]
    by_cases e : i = 0
    · subst e; simpa using h hm
    · exact (ltS_ne (ltS_trans hlt (List.pairwise_iff_getElem.1 hA (placeN l v) (placeN l v + i) hm (by omega) (by omega)))).symm

set_option maxHeartbeats 2000000 in
theorem get_any (A : Option Addr) (l : List BindD) (n ca : Nat) (hn : l.length = n) (v : ByteArray) (w : World) (hL : BL w A ca l) (hl : l.length ≤ 1000000) (hA : Asc l) :
    Calls Tryd.prog 54 #[.slice A n ca, .string v] w fun e w' => (∃ t is, RowKit.Hid ((t, is) = getR l v) ∧ e = .returned (.tuple #[.agg #[.bool t.v, .string t.name], .bool is])) ∧ Bel w w' := by
  subst hn
  have HL := Lib.hid hL
  have HA := Lib.hid hA
  have HH := Lib.hid (fun h e => getR_some (get_hit (v := v) hA h e))
  have HM := Lib.hid (fun h => getR_none (get_miss (v := v) hA h))
  have hP := Lib.hid (fun W hg => place_any A l l.length ca rfl v W (hL.bel hg) hl hA)
  clear hL hA
  have hZ := TermAt.new w zeroT
  have hb := bel_alloc w (.cells #[.bool zeroT.v, .string zeroT.name] 27)
  simp only [zeroT] at hb
  have hm := placeN_le l v
  generalize hmm : placeN l v = m at hm hP HH HM
  clear hmm
  by_cases hlt : m < l.length
  · obtain ⟨b, o, rfl, hbb, hc⟩ := bl_get (HL.out.bel hb) (by omega)
    obtain ⟨c1, c2, c3⟩ := hc m hlt
    have hq : (0 : Int) ≤ m := by omega
    have hq2 : (m : Int) < l.length := by omega
    have HE := Lib.hid (fun (e : l[m].v = v) => HH.out hlt e)
    have HN := Lib.hid (fun (e : l[m].v ≠ v) => HM.out (fun _ => e))
    clear hc hbb HH HM
    by_cases e : l[m].v = v
    · have HR := Lib.hid (HE.out e)
      have he := toList_eq e
      clear e HE HN
      generalize l[m].t = t at c2 c3 HR
      generalize l[m].v = y at c1 he
      go_enter Tryd.func54, Tryd.ntmps54
      go_wp2_with (first | (go_at_call 55; refine (hP.out _ hb).mono ?_; rintro e w1 ⟨rfl, hg⟩; have hZ := hZ.bel hg; have c1 := cell_bel c1 hg; have c2 := cell_bel c2 hg; have c3 := cell_bel c3 hg; have hb := hb.trans' hg; clear hg) | ((with_reducible refine wpList_store_term ?_ (.tmp 4) (.tmp 27) ?_ w.heap.size t ?_ ?_ hZ ?_); rfl; rfl; rfl; rfl; intro w3 hR hb3 _; have hb := hb.trans hb3; clear hb3))
      try simp only [Exit.inBlock, Exit.then]
      refine bodyPost_ret (results_term2 rfl _ _ _ _ rfl hR) rfl ?_
      exact ⟨⟨_, _, Lib.hid HR.out.symm, rfl⟩, hb⟩
    · have HR := Lib.hid (HN.out e)
      have he := toList_ne e
      clear e HE HN
      generalize l[m].t = t at c2 c3
      generalize l[m].v = y at c1 he
      go_enter Tryd.func54, Tryd.ntmps54
      go_wp2_with (first | (go_at_call 55; refine (hP.out _ hb).mono ?_; rintro e w1 ⟨rfl, hg⟩; have hZ := hZ.bel hg; have c1 := cell_bel c1 hg; have hb := hb.trans' hg; clear hg) | ((with_reducible refine wpList_store_term ?_ (.tmp 4) (.tmp 28) ?_ w.heap.size zeroT ?_ ?_ hZ ?_); rfl; rfl; rfl; rfl; intro w3 hR hb3 _; have hb := hb.trans hb3; clear hb3))
      try simp only [Exit.inBlock, Exit.then]
      refine bodyPost_ret (results_term2 rfl _ _ _ _ rfl hR) rfl ?_
      exact ⟨⟨_, _, Lib.hid HR.out.symm, rfl⟩, hb⟩
  · have HR := Lib.hid (HM.out (fun h => absurd h hlt))
    have hq2 : ¬ ((m : Int) < l.length) := by omega
    clear HH HM
    go_enter Tryd.func54, Tryd.ntmps54
    go_wp2_with (first | (go_at_call 55; refine (hP.out _ hb).mono ?_; rintro e w1 ⟨rfl, hg⟩; have hZ := hZ.bel hg; have hb := hb.trans' hg; clear hg) | ((with_reducible refine wpList_store_term ?_ (.tmp 4) (.tmp 28) ?_ w.heap.size zeroT ?_ ?_ hZ ?_); rfl; rfl; rfl; rfl; intro w3 hR hb3 _; have hb := hb.trans hb3; clear hb3))
    try simp only [Exit.inBlock, Exit.then]
    refine bodyPost_ret (results_term2 rfl _ _ _ _ rfl hR) rfl ?_
    exact ⟨⟨_, _, Lib.hid HR.out.symm, rfl⟩, hb⟩
set_option maxHeartbeats 1000000 in
theorem binds_any (A : Option Addr) (l : List BindD) (n ca : Nat) (hn : l.length = n) (v : ByteArray) (w : World) (hL : BL w A ca l) (hl : l.length ≤ 1000000) (hA : Asc l) :
    Calls Tryd.prog 39 #[.slice A n ca, .string v] w fun e w' => e = .returned (.bool (getB l v).isSome) ∧ Bel w w' := by
  have hP := Lib.hid (get_any A l n ca hn v w hL hl hA)
  have hS := getR_snd l v
  obtain ⟨q, hq⟩ : ∃ q, q = getR l v := ⟨_, rfl⟩
  rw [← hq] at hS hP
  clear hq
  go_enter Tryd.func39, Tryd.ntmps39
  go_wp2_with (go_at_call 54; refine hP.out.mono ?_; rintro e w1 ⟨⟨t, is, hE, rfl⟩, hg⟩)
  go_ret
  exact ⟨ret_bool (by rw [← hS, ← hE.out]), hg.trans' (bel_alloc _ _)⟩
end Go.Proofs.YtkcnbdlhggoojaaDoor
namespace Go.Proofs.YtkcnbdlhggoojaaDoor
open Go.RowKit

def lenV : Value → Nat
  | .slice _ n _ => n
  | _ => 0
theorem getR_take {l : List BindD} {n : Nat} {v : ByteArray} {t : TermD} (h : getR (l.take n) v = (t, true)) : getR l v = (t, true) := by
  unfold getR at h
  cases e : getB (l.take n) v with
  | none => rw [e] at h; cases h
  | some u =>
    rw [e] at h
    injection h with h _
    subst h
    refine getR_some ?_
    rw [← List.take_append_drop n l, getB_append, e]
    rfl
theorem getR_drop {l : List BindD} {n : Nat} {v : ByteArray} {t : TermD} (h : getR (l.take n) v = (t, false)) : getR (l.drop n) v = getR l v := by
  unfold getR at h
  cases e : getB (l.take n) v with
  | some u => rw [e] at h; cases h
  | none =>
    have : getB l v = getB (l.drop n) v := by
      conv => lhs; rw [← List.take_append_drop n l]
      rw [getB_append, e]
      rfl
    unfold getR
    rw [this]
theorem getR_nil (v : ByteArray) : getR [] v = (zeroT, false) := rfl
theorem SliceAt.dropCap {α : Type} {enc : α → List Value} {k : Nat} {w : World} {b o ca : Nat} {l : List α} (h : SliceAt enc k w (some ⟨b, o, none⟩) ca l) (m : Nat) : SliceAt enc k w (some ⟨b, o + m * k, none⟩) (ca - m) (l.drop m) :=
  ⟨h.items.drop m, by have := h.le; rw [List.length_drop]; omega, (fun e => by cases e), fun a e _ => ⟨_, _, (by injection e with e; exact e.symm)⟩⟩
theorem SliceAt.empty {α : Type} {enc : α → List Value} {k : Nat} {w : World} {b o ca ca' : Nat} {l : List α} (_h : SliceAt enc k w (some ⟨b, o, none⟩) ca l) : SliceAt enc k w (some ⟨b, o, none⟩) ca' ([] : List α) :=
  ⟨ItemsAt.nil _ _, by simp, (fun e => by cases e), fun a e _ => ⟨_, _, (by injection e with e; exact e.symm)⟩⟩

set_option maxHeartbeats 4000000 in
theorem Get_any (A : Option Addr) (l : List BindD) (n ca : Nat) (hn : l.length = n) (v : ByteArray) (w : World) (hL : BL w A ca l) (hl : l.length ≤ 1000000) :
    Calls Tryd.prog 45 #[.slice A n ca, .string v] w fun e w' => (∃ t is, RowKit.Hid ((t, is) = getR l v) ∧ e = .returned (.tuple #[.agg #[.bool t.v, .string t.name], .bool is])) ∧ Bel w w' := by
  subst hn
  have hZ := TermAt.new w zeroT
  have hb := bel_alloc w (.cells #[.bool zeroT.v, .string zeroT.name] 27)
  simp only [zeroT] at hb
  have H0 := Lib.hid (And.intro (hL.bel hb) (And.intro hl (And.intro hZ hb)))
  clear hL hZ hb hl
  go_enter Tryd.func45, Tryd.ntmps45
  go_wp2
  go_loopw [0] (fun a0 wr => ∃ (l' : List BindD) (A' : Option Addr) (ca' : Nat), a0 = .slice A' l'.length ca' ∧ RowKit.Hid (BL wr A' ca' l' ∧ l'.length ≤ 1000000 ∧ getR l' v = getR l v ∧ TermAt wr w.heap.size zeroT ∧ Bel w wr)) (fun a0 _ => lenV a0)
  case atStart => exact ⟨l, A, ca, rfl, Lib.hid ⟨H0.out.1, H0.out.2.1, rfl, H0.out.2.2.1, H0.out.2.2.2⟩⟩
  case round =>
    obtain ⟨l', A', ca', rfl, H⟩ := hrel
    clear H0
    have HG := Lib.hid H.out.2.2.1
    have hl := H.out.2.1
    have HL := Lib.hid H.out.1
    have hZ := H.out.2.2.2.1
    have hb := H.out.2.2.2.2
    clear H
    by_cases h0 : 0 < l'.length
    · obtain ⟨b, o, rfl⟩ := HL.out.pos h0
      have h00 : (0 : Int) < l'.length := by omega
      have hle := HL.out.le
      go_wp2_with (first | (go_at_call 53; refine (run_any _ l' ca' _ HL.out hl).mono ?_; rintro e w1 ⟨⟨n, HN, rfl⟩, hg⟩; have HL := Lib.hid (HL.out.bel hg); have hZ := hZ.bel hg; have hb := hb.trans' hg; clear hg; have hn1 := HN.out.1; have hn2 := HN.out.2.1 h0; have hn3 : (n : Int) ≤ ca' := (by omega); have hn4 : (n : Int) ≤ l'.length := (by omega); have hn5 : (0 : Int) ≤ n := (by omega)))
      refine (get_any _ (l'.take n) n ca' (by rw [List.length_take]; omega) v _ (HL.out.take n) (by rw [List.length_take]; omega) HN.out.2.2.1).mono ?_
      rintro e w2 ⟨⟨t, is, HR, rfl⟩, hg⟩
      have HL := Lib.hid (HL.out.bel hg)
      have hT0 := TermAt.new w2 t
      have hg2 := hg.trans' (bel_alloc w2 (.cells #[.bool t.v, .string t.name] 27))
      have hZ := hZ.bel hg2
      have hb := hb.trans' hg2
      cases is
      · have HD := Lib.hid ((getR_drop HR.out.symm).trans HG.out)
        by_cases hcc : ca' = n
        · have hcl : l'.length = n := by omega
          have hcl2 : ((l'.length : Nat) : Int) - n = 0 := by omega
          have HX : RowKit.Hid (getR ([] : List BindD) v = getR l v) := Lib.hid (by
            have := HD.out
            rwa [List.drop_of_length_le (by omega)] at this)
          have HE := Lib.hid ((HL.out.empty (ca' := 0)).bel (bel_alloc w2 (.cells #[.bool t.v, .string t.name] 27)))
          go_wp2
          go_roundw
          case rel => exact ⟨[], _, 0, rfl, Lib.hid ⟨HE.out, by simp, HX.out, hZ, hb⟩⟩
          case measure => simp [lenV]; omega
        · have hcl : n < ca' := by omega
          have HE := Lib.hid ((HL.out.dropCap n).bel (bel_alloc w2 (.cells #[.bool t.v, .string t.name] 27)))
          have HLE : RowKit.Hid ((l'.drop n).length = l'.length - n) := Lib.hid (by rw [List.length_drop])
          go_wp2
          go_roundw
          case rel => exact ⟨l'.drop n, _, ca' - n, by rw [HLE.out], Lib.hid ⟨HE.out, by rw [HLE.out]; omega, HD.out, hZ, hb⟩⟩
          case measure => simp [lenV]; omega
      · have HX := Lib.hid ((getR_take HR.out.symm).symm.trans HG.out)
        obtain ⟨d0, d1⟩ := hT0.cells
        go_wp2_with ((with_reducible refine wpList_store_term ?_ (.tmp 4) (.tmp 23) ?_ w.heap.size t ?_ ?_ hZ ?_); rfl; rfl; rfl; rfl; intro w3 hR hb3 _; have hb := hb.trans hb3; clear hb3)
        try simp only [Exit.inBlock, Exit.then]
        refine bodyPost_ret (results_term2 rfl _ _ _ _ rfl hR) rfl ?_
        exact ⟨⟨_, _, Lib.hid ((getR_take HR.out.symm).symm.trans HG.out), rfl⟩, hb⟩
    · have hl0 : l' = [] := List.eq_nil_of_length_eq_zero (by omega)
      subst hl0
      go_wp2_with ((with_reducible refine wpList_store_term ?_ (.tmp 4) (.tmp 27) ?_ w.heap.size zeroT ?_ ?_ hZ ?_); rfl; rfl; rfl; rfl; intro w3 hR hb3 _; have hb := hb.trans hb3; clear hb3)
      try simp only [Exit.inBlock, Exit.then]
      refine bodyPost_ret (results_term2 rfl _ _ _ _ rfl hR) rfl ?_
      exact ⟨⟨_, _, Lib.hid HG.out, rfl⟩, hb⟩
end Go.Proofs.YtkcnbdlhggoojaaDoor
namespace Go.Proofs.YtkcnbdlhggoojaaDoor
open Go.RowKit

theorem sub_const {l : List BindD} {t : TermD} (h : t.v = false) : subT l t = t := by unfold subT; rw [h]; simp
theorem sub_hit {l : List BindD} {t u : TermD} (h : t.v = true) (k : getR l t.name = (u, true)) : subT l t = u := by
  unfold getR at k
  unfold subT
  rw [if_pos h]
  cases e : getB l t.name with
  | none => rw [e] at k; cases k
  | some x => rw [e] at k; injection k
theorem sub_miss {l : List BindD} {t u : TermD} (k : getR l t.name = (u, false)) : subT l t = t := by
  unfold getR at k
  unfold subT
  cases e : getB l t.name with
  | none => simp
  | some x => rw [e] at k; cases k

set_option maxHeartbeats 1000000 in
theorem Term1_any (A : Option Addr) (l : List BindD) (ca : Nat) (v : ByteArray) (b1 : Nat) (w : World) (hL : BL w A ca l) (hl : l.length ≤ 1000000) (h1 : w.cell? ⟨b1, 0, none⟩ = some (.slice A l.length ca)) :
    Calls Tryd.prog 44 #[.string v, .pointer (some ⟨b1, 0, none⟩)] w fun e w' => (∃ t is, RowKit.Hid ((t, is) = getR l v) ∧ e = .returned (.tuple #[.agg #[.bool t.v, .string t.name], .bool is])) ∧ Bel w w' := by
  have hZ := TermAt.new w zeroT
  have hb := bel_alloc w (.cells #[.bool zeroT.v, .string zeroT.name] 27)
  have hG := Lib.hid (Get_any A l l.length ca rfl v _ (hL.bel hb) hl)
  simp only [zeroT] at hb hG
  have c1 := cell_bel h1 hb
  clear hL h1
  go_enter Tryd.func44, Tryd.ntmps44
  go_wp2_with (first | (go_at_call 45; refine hG.out.mono ?_; rintro e w1 ⟨⟨t, is, HE, rfl⟩, hg⟩; have hZ := hZ.bel hg; have hb := hb.trans' hg; clear hg) | ((with_reducible refine wpList_store_term ?_ (.tmp 3) (.tmp 8) ?_ w.heap.size t ?_ ?_ hZ ?_); rfl; rfl; rfl; rfl; intro w3 hR hb3 _; have hb := hb.trans hb3; clear hb3))
  try simp only [Exit.inBlock, Exit.then]
  refine bodyPost_ret (results_term2 rfl _ _ _ _ rfl hR) rfl ?_
  exact ⟨⟨_, _, HE, rfl⟩, hb⟩

set_option maxHeartbeats 2000000 in
theorem replaced_T (A : Option Addr) (l : List BindD) (ca : Nat) (tv : Bool) (s : ByteArray) (b1 : Nat) (w : World) (hL : BL w A ca l) (hl : l.length ≤ 1000000) (h1 : w.cell? ⟨b1, 0, none⟩ = some (.slice A l.length ca)) :
    Calls Tryd.prog 43 #[.agg #[.bool tv, .string s], .func (.func 44) #[] #[.pointer (some ⟨b1, 0, none⟩)]] w fun e w' => (∃ u, RowKit.Hid (u = subT l ⟨tv, s⟩) ∧ e = .returned (.agg #[.bool u.v, .string u.name])) ∧ Bel w w' := by
  have g1 := bel_alloc w (.cells #[.bool tv, .string s] 27)
  have hT0 : TermAt (w.alloc (.cells #[.bool tv, .string s] 27)) w.heap.size ⟨tv, s⟩ := TermAt.new w ⟨tv, s⟩
  have hZ := TermAt.new (w.alloc (.cells #[.bool tv, .string s] 27)) zeroT
  rw [show (w.alloc (.cells #[.bool tv, .string s] 27)).heap.size = w.heap.size + 1 by simp] at hZ
  have g2 := bel_alloc (w.alloc (.cells #[.bool tv, .string s] 27)) (.cells #[.bool zeroT.v, .string zeroT.name] 27)
  have hT := hT0.bel g2
  have hZ0 := TermAt.new (w.alloc (.cells #[.bool tv, .string s] 27)) zeroT
  rw [show (w.alloc (.cells #[.bool tv, .string s] 27)).heap.size = w.heap.size + 1 by simp] at hZ0
  have hb := g1.trans' g2
  have hF := Lib.hid (Term1_any A l ca s b1 _ (hL.bel hb) hl (cell_bel h1 hb))
  simp only [zeroT] at hb hF hT
  clear hT0 g1 g2 hL h1
  have hlt : w.heap.size < w.heap.size + 1 := by omega
  have d0 : World.cell? _ _ = some (.bool tv) := hT.cells.1
  have d1 : World.cell? _ _ = some (.string s) := hT.cells.2
  cases tv
  · have HR := Lib.hid (sub_const (l := l) (t := ⟨false, s⟩) rfl)
    clear hF
    have hZ : TermAt ((w.alloc (.cells #[.bool false, .string s] 27)).alloc (.cells #[.bool false, .string ⟨#[]⟩] 27)) (w.heap.size + 1) zeroT := hZ0
    go_enter Tryd.func43, Tryd.ntmps43
    go_wp2_with ((with_reducible refine wpList_store_term ?_ (.tmp 4) (.tmp 10) ?_ (w.heap.size + 1) ⟨false, s⟩ ?_ ?_ hZ ?_); rfl; rfl; rfl; rfl; intro w3 hR hb3 _; have hb := hb.trans (hb3.mono (Nat.le_succ _)); clear hb3)
    try simp only [Exit.inBlock, Exit.then]
    refine bodyPost_ret (results_term rfl _ _ _ _ rfl hR) rfl ?_
    exact ⟨⟨_, Lib.hid HR.out.symm, rfl⟩, hb⟩
  · go_enter Tryd.func43, Tryd.ntmps43
    go_wp2_with (fail)
    refine hF.out.mono ?_
    rintro e w1 ⟨⟨u, is, HE, rfl⟩, hg⟩
    have hZ := hZ.bel hg
    have hT := hT.bel hg
    have hb := hb.trans' hg
    have hU := TermAt.new w1 u
    have g3 := bel_alloc w1 (.cells #[.bool u.v, .string u.name] 27)
    have hZ := hZ.bel g3
    have hT := hT.bel g3
    have hb := hb.trans' g3
    clear g3 hg d0 d1
    have d0 : World.cell? _ _ = some (.bool true) := hT.cells.1
    have d1 : World.cell? _ _ = some (.string s) := hT.cells.2
    obtain ⟨f0, f1⟩ := hU.cells
    cases is
    · have HR := Lib.hid (sub_miss (t := ⟨true, s⟩) HE.out.symm)
      go_wp2_with ((with_reducible refine wpList_store_term ?_ (.tmp 4) (.tmp 20) ?_ (w.heap.size + 1) ⟨true, s⟩ ?_ ?_ hZ ?_); rfl; rfl; rfl; rfl; intro w3 hR hb3 _; have hb := hb.trans (hb3.mono (Nat.le_succ _)); clear hb3)
      try simp only [Exit.inBlock, Exit.then]
      refine bodyPost_ret (results_term rfl _ _ _ _ rfl hR) rfl ?_
      exact ⟨⟨_, Lib.hid HR.out.symm, rfl⟩, hb⟩
    · have HR := Lib.hid (sub_hit (t := ⟨true, s⟩) rfl HE.out.symm)
      go_wp2_with ((with_reducible refine wpList_store_term ?_ (.tmp 4) (.tmp 19) ?_ (w.heap.size + 1) u ?_ ?_ hZ ?_); rfl; rfl; rfl; rfl; intro w3 hR hb3 _; have hb := hb.trans (hb3.mono (Nat.le_succ _)); clear hb3)
      try simp only [Exit.inBlock, Exit.then]
      refine bodyPost_ret (results_term rfl _ _ _ _ rfl hR) rfl ?_
      exact ⟨⟨_, Lib.hid HR.out.symm, rfl⟩, hb⟩

set_option maxHeartbeats 2000000 in
theorem replaced_G (A : Option Addr) (l : List BindD) (n ca : Nat) (hn : l.length = n) (tv : Bool) (s : ByteArray) (w : World) (hL : BL w A ca l) (hl : l.length ≤ 1000000) (hA : Asc l) :
    Calls Tryd.prog 43 #[.agg #[.bool tv, .string s], .func (.func 54) #[.slice A n ca] #[]] w fun e w' => (∃ u, RowKit.Hid (u = subT l ⟨tv, s⟩) ∧ e = .returned (.agg #[.bool u.v, .string u.name])) ∧ Bel w w' := by
  have g1 := bel_alloc w (.cells #[.bool tv, .string s] 27)
  have hT0 : TermAt (w.alloc (.cells #[.bool tv, .string s] 27)) w.heap.size ⟨tv, s⟩ := TermAt.new w ⟨tv, s⟩
  have hZ := TermAt.new (w.alloc (.cells #[.bool tv, .string s] 27)) zeroT
  rw [show (w.alloc (.cells #[.bool tv, .string s] 27)).heap.size = w.heap.size + 1 by simp] at hZ
  have g2 := bel_alloc (w.alloc (.cells #[.bool tv, .string s] 27)) (.cells #[.bool zeroT.v, .string zeroT.name] 27)
  have hT := hT0.bel g2
  have hZ0 := TermAt.new (w.alloc (.cells #[.bool tv, .string s] 27)) zeroT
  rw [show (w.alloc (.cells #[.bool tv, .string s] 27)).heap.size = w.heap.size + 1 by simp] at hZ0
  have hb := g1.trans' g2
  have hF := Lib.hid (get_any A l n ca hn s _ (hL.bel hb) hl hA)
  simp only [zeroT] at hb hF hT
  clear hT0 g1 g2 hL hA hn
  have hlt : w.heap.size < w.heap.size + 1 := by omega
  have d0 : World.cell? _ _ = some (.bool tv) := hT.cells.1
  have d1 : World.cell? _ _ = some (.string s) := hT.cells.2
  cases tv
  · have HR := Lib.hid (sub_const (l := l) (t := ⟨false, s⟩) rfl)
    clear hF
    have hZ : TermAt ((w.alloc (.cells #[.bool false, .string s] 27)).alloc (.cells #[.bool false, .string ⟨#[]⟩] 27)) (w.heap.size + 1) zeroT := hZ0
    go_enter Tryd.func43, Tryd.ntmps43
    go_wp2_with ((with_reducible refine wpList_store_term ?_ (.tmp 4) (.tmp 10) ?_ (w.heap.size + 1) ⟨false, s⟩ ?_ ?_ hZ ?_); rfl; rfl; rfl; rfl; intro w3 hR hb3 _; have hb := hb.trans (hb3.mono (Nat.le_succ _)); clear hb3)
    try simp only [Exit.inBlock, Exit.then]
    refine bodyPost_ret (results_term rfl _ _ _ _ rfl hR) rfl ?_
    exact ⟨⟨_, Lib.hid HR.out.symm, rfl⟩, hb⟩
  · go_enter Tryd.func43, Tryd.ntmps43
    go_wp2_with (fail)
    refine hF.out.mono ?_
    rintro e w1 ⟨⟨u, is, HE, rfl⟩, hg⟩
    have hZ := hZ.bel hg
    have hT := hT.bel hg
    have hb := hb.trans' hg
    have hU := TermAt.new w1 u
    have g3 := bel_alloc w1 (.cells #[.bool u.v, .string u.name] 27)
    have hZ := hZ.bel g3
    have hT := hT.bel g3
    have hb := hb.trans' g3
    clear g3 hg d0 d1
    have d0 : World.cell? _ _ = some (.bool true) := hT.cells.1
    have d1 : World.cell? _ _ = some (.string s) := hT.cells.2
    obtain ⟨f0, f1⟩ := hU.cells
    cases is
    · have HR := Lib.hid (sub_miss (t := ⟨true, s⟩) HE.out.symm)
      go_wp2_with ((with_reducible refine wpList_store_term ?_ (.tmp 4) (.tmp 20) ?_ (w.heap.size + 1) ⟨true, s⟩ ?_ ?_ hZ ?_); rfl; rfl; rfl; rfl; intro w3 hR hb3 _; have hb := hb.trans (hb3.mono (Nat.le_succ _)); clear hb3)
      try simp only [Exit.inBlock, Exit.then]
      refine bodyPost_ret (results_term rfl _ _ _ _ rfl hR) rfl ?_
      exact ⟨⟨_, Lib.hid HR.out.symm, rfl⟩, hb⟩
    · have HR := Lib.hid (sub_hit (t := ⟨true, s⟩) rfl HE.out.symm)
      go_wp2_with ((with_reducible refine wpList_store_term ?_ (.tmp 4) (.tmp 19) ?_ (w.heap.size + 1) u ?_ ?_ hZ ?_); rfl; rfl; rfl; rfl; intro w3 hR hb3 _; have hb := hb.trans (hb3.mono (Nat.le_succ _)); clear hb3)
      try simp only [Exit.inBlock, Exit.then]
      refine bodyPost_ret (results_term rfl _ _ _ _ rfl hR) rfl ?_
      exact ⟨⟨_, Lib.hid HR.out.symm, rfl⟩, hb⟩

theorem Term_any (A : Option Addr) (l : List BindD) (ca : Nat) (t : TermD) (w : World) (hL : BL w A ca l) (hl : l.length ≤ 1000000) :
    Calls Tryd.prog 25 #[.slice A l.length ca, .agg #[.bool t.v, .string t.name]] w fun e w' => (∃ u, RowKit.Hid (u = subT l t) ∧ e = .returned (.agg #[.bool u.v, .string u.name])) ∧ Bel w w' := by
  have g1 := bel_alloc w (.cells #[.slice A l.length ca] 23)
  have k1 : (w.alloc (.cells #[.slice A l.length ca] 23)).cell? ⟨w.heap.size, 0, none⟩ = some (.slice A l.length ca) := cell_of_block (heap_alloc_new w _) rfl
  have g2 := bel_alloc (w.alloc (.cells #[.slice A l.length ca] 23)) (.cells #[.bool t.v, .string t.name] 27)
  have hT := TermAt.new (w.alloc (.cells #[.slice A l.length ca] 23)) t
  rw [show (w.alloc (.cells #[.slice A l.length ca] 23)).heap.size = w.heap.size + 1 by simp] at hT
  have g3 := bel_alloc ((w.alloc (.cells #[.slice A l.length ca] 23)).alloc (.cells #[.bool t.v, .string t.name] 27)) (.cells #[.bool zeroT.v, .string zeroT.name] 27)
  have hZ := TermAt.new ((w.alloc (.cells #[.slice A l.length ca] 23)).alloc (.cells #[.bool t.v, .string t.name] 27)) zeroT
  rw [show ((w.alloc (.cells #[.slice A l.length ca] 23)).alloc (.cells #[.bool t.v, .string t.name] 27)).heap.size = w.heap.size + 2 by simp] at hZ
  have hb := (g1.trans' g2).trans' g3
  have hF := Lib.hid (replaced_T A l ca t.v t.name w.heap.size _ (hL.bel hb) hl (cell_bel (cell_bel k1 g2) g3))
  simp only [zeroT] at hb hF
  have hT := hT.bel g3
  obtain ⟨d0, d1⟩ := hT.cells
  clear g1 g2 g3 k1 hL
  go_enter Tryd.func25, Tryd.ntmps25
  go_wp2_with (first | (go_at_call 43; refine hF.out.mono ?_; rintro e w1 ⟨⟨u, HE, rfl⟩, hg⟩; have hZ := hZ.bel hg; have hb := hb.trans' hg; clear hg) | ((with_reducible refine wpList_store_term ?_ (.tmp 4) (.tmp 7) ?_ (w.heap.size + 2) u ?_ ?_ hZ ?_); rfl; rfl; rfl; rfl; intro w3 hR hb3 _; have hb := hb.trans (hb3.mono (by omega)); clear hb3))
  try simp only [Exit.inBlock, Exit.then]
  refine bodyPost_ret (results_term rfl _ _ _ _ rfl hR) rfl ?_
  exact ⟨⟨_, HE, rfl⟩, hb⟩

set_option maxHeartbeats 1000000 in
theorem self_any (b : BindD) (w : World) :
    Calls Tryd.prog 40 #[.agg #[.string b.v, .bool b.t.v, .string b.t.name]] w fun e w' => e = .returned (.bool (selfB b)) ∧ Bel w w' := by
  have hE : eqT ⟨b.t.v, b.t.name⟩ ⟨true, b.v⟩ = selfB b := by
    unfold selfB
    rw [Bool.eq_iff_iff, eqT_iff]
    simp
  have HE := Lib.hid hE
  have hq := eql_term
  clear hE
  go_enter Tryd.func40, Tryd.ntmps40
  go_wp2
  go_ret
  exact ⟨ret_bool HE.out, bel_alloc _ _⟩
end Go.Proofs.YtkcnbdlhggoojaaDoor
namespace Go.Proofs.YtkcnbdlhggoojaaDoor
open Go.RowKit

theorem err_asc {l : List BindD} (h : ¬ Asc l) : errB l = 15 := by unfold errB; rw [if_neg]; rw [checkB_iff]; exact fun k => h k.1
theorem err_bad {l : List BindD} {b : BindD} (hb : b ∈ l) (h : goodB l b = false) : errB l = 15 := by
  unfold errB
  rw [if_neg]
  unfold checkB
  rw [Bool.and_eq_true, List.all_eq_true]
  exact fun k => by have := k.2 b hb; rw [h] at this; cases this
theorem err_ok {l : List BindD} (h : Asc l) (k : (l.take l.length).all (goodB l) = true) : errB l = 0 := by
  unfold errB
  rw [if_pos]
  unfold checkB AscB
  rw [List.take_length] at k
  simp [h, k]
theorem good_emp {l : List BindD} {v : ByteArray} {tv : Bool} : goodB l ⟨v, tv, ⟨#[]⟩⟩ = false := by unfold goodB; simp [emp]
theorem good_const {l : List BindD} {v s : ByteArray} (h : s ≠ emp) : goodB l ⟨v, false, s⟩ = true := by unfold goodB; simp [h]
theorem good_var {l : List BindD} {v s : ByteArray} (h : s ≠ emp) : goodB l ⟨v, true, s⟩ = !(getB l s).isSome := by unfold goodB; simp [h]
theorem all_succ {α : Type} {l : List α} {f : α → Bool} {k : Nat} (h : k < l.length) (h1 : (l.take k).all f = true) (h2 : f l[k] = true) : (l.take (k + 1)).all f = true := by
  rw [List.take_add_one, List.getElem?_eq_getElem h, List.all_append, h1]; simp [h2]
theorem ne_emp {s : ByteArray} (h : s ≠ emp) : ¬ s.toList = [] := fun e => h ((toList_emp s).1 e)

set_option maxHeartbeats 4000000 in
theorem Check_any (A : Option Addr) (l : List BindD) (ca : Nat) (w : World) (hL : BL w A ca l) (hl : l.length ≤ 1000000) :
    Calls Tryd.prog 38 #[.slice A l.length ca] w fun e w' => e = .returned (.int .i64 (errB l)) ∧ Bel w w' := by
  have HL := Lib.hid hL
  clear hL
  by_cases hA : Asc l
  case neg =>
    have HE := Lib.hid (err_asc hA)
    go_enter Tryd.func38, Tryd.ntmps38
    go_wp2_with (go_at_call 53; refine (run_any A l ca _ HL.out hl).mono ?_; rintro e w1 ⟨⟨n, HN, rfl⟩, hg⟩; have hn : (n : Int) < l.length := (by have h1 := HN.out.1; have h2 := HN.out.2.2.1; have : n ≠ l.length := fun e => hA (by rwa [e, List.take_length] at h2); omega))
    go_ret
    exact ⟨ret_int HE.out.symm, hg⟩
  have HA := Lib.hid hA
  clear hA
  go_enter Tryd.func38, Tryd.ntmps38
  go_wp2_with (go_at_call 53; refine (run_any A l ca _ HL.out hl).mono ?_; rintro e w1 ⟨⟨n, HN, rfl⟩, hg⟩; obtain rfl : n = l.length := (by have h1 := HN.out.2.2.2; have h2 := HN.out.1; have : ¬ n < l.length := fun e => h1 e HA.out; omega))
  have HB0 := Lib.hid hg
  clear hg HN
  go_loopw [12] (fun i wr => ∃ k : Nat, k ≤ l.length ∧ i = .int .i64 k ∧ RowKit.Hid (Bel w wr) ∧ RowKit.Hid ((l.take k).all (goodB l) = true)) (fun i _ => l.length - (intOf i).toNat)
  case atStart => exact ⟨0, Nat.zero_le _, rfl, HB0, Lib.hid rfl⟩
  case round =>
    obtain ⟨k, hk, rfl, HB, HU⟩ := hrel
    by_cases hlt : k < l.length
    · obtain ⟨b, o, rfl, hbb, hc⟩ := bl_get (HL.out.bel HB.out) (by omega)
      obtain ⟨c1, c2, c3⟩ := hc k hlt
      have hq : (0 : Int) ≤ k := by omega
      have hq2 : (k : Int) < l.length := by omega
      have HS : RowKit.Hid (goodB l l[k] = true → (l.take (k + 1)).all (goodB l) = true) := Lib.hid (all_succ hlt HU.out)
      have HX : RowKit.Hid (goodB l l[k] = false → errB l = 15) := Lib.hid (err_bad (List.getElem_mem hlt))
      have HW := Lib.hid (HL.out.bel (HB.out.trans' (bel_alloc wr (.cells #[.string l[k].v, .bool l[k].t.v, .string l[k].t.name] 39))))
      have HB2 := Lib.hid (HB.out.trans' (bel_alloc wr (.cells #[.string l[k].v, .bool l[k].t.v, .string l[k].t.name] 39)))
      clear hc hbb
      generalize l[k] = x at c1 c2 c3 HS HX HW HB2
      obtain ⟨xv, tv, s⟩ := x
      simp only at c1 c2 c3 HW HB2
      by_cases hs : s = emp
      · subst hs
        have HE := Lib.hid (HX.out good_emp)
        unfold emp at *
        go_wp2
        go_ret
        exact ⟨ret_int HE.out.symm, HB2.out⟩
      · have hs2 := ne_emp hs
        have hs3 : s.toList.isEmpty = false := by simpa using hs2
        cases tv
        · have HN := Lib.hid (HS.out (good_const hs))
          clear hs
          go_wp2
          go_roundw
          case rel => exact ⟨k + 1, by omega, by go_num, HB2, HN⟩
          case measure => simp [intOf]; omega
        · rcases Bool.eq_false_or_eq_true (getB l s).isSome with hg | hg
          · have HE := Lib.hid (HX.out (by rw [good_var hs, hg]; rfl))
            clear hs
            go_wp2_with (go_at_call 39; refine (binds_any _ l l.length ca rfl s _ HW.out hl HA.out).mono ?_; rintro e w2 ⟨rfl, hg2⟩)
            go_ret
            exact ⟨ret_int HE.out.symm, HB2.out.trans' hg2⟩
          · have HN := Lib.hid (HS.out (by rw [good_var hs, hg]; rfl))
            clear hs
            go_wp2_with (go_at_call 39; refine (binds_any _ l l.length ca rfl s _ HW.out hl HA.out).mono ?_; rintro e w2 ⟨rfl, hg2⟩; have HG2 := Lib.hid (HB2.out.trans' hg2); clear hg2)
            go_roundw
            case rel => exact ⟨k + 1, by omega, by go_num, HG2, HN⟩
            case measure => simp [intOf]; omega
    · obtain rfl : k = l.length := by omega
      have HE := Lib.hid (err_ok HA.out HU.out)
      go_wp2
      go_ret
      exact ⟨ret_int HE.out.symm, HB.out⟩
end Go.Proofs.YtkcnbdlhggoojaaDoor
namespace Go.Proofs.YtkcnbdlhggoojaaDoor
open Go.RowKit

def appK (l : List BindD) (a : AtomD) (k : Nat) : AtomD :=
  ⟨a.says, a.pred, a.n, if 0 < k then subT l a.t0 else a.t0, if 1 < k then subT l a.t1 else a.t1, if 2 < k then subT l a.t2 else a.t2, if 3 < k then subT l a.t3 else a.t3⟩
theorem appK_all (l : List BindD) (a : AtomD) : appK l a (cntI a.n) = applyA l a := rfl
theorem appK_zero (l : List BindD) (a : AtomD) : appK l a 0 = a := rfl
theorem appK_step (l : List BindD) (a : AtomD) (k : Nat) (hk : k < 4) (t : TermD) (ht : (argsD a)[k]? = some t) : (argsD (appK l a k))[k]? = some t ∧ setArg (appK l a k) k (subT l t) = appK l a (k + 1) := by
  obtain rfl | rfl | rfl | rfl : k = 0 ∨ k = 1 ∨ k = 2 ∨ k = 3 := by omega
  all_goals
    simp only [argsD, List.getElem?_cons_zero, List.getElem?_cons_succ, Option.some.injEq] at ht
    subst ht
    exact ⟨rfl, rfl⟩
theorem args_some (a : AtomD) (k : Nat) (hk : k < 4) : ∃ t, (argsD a)[k]? = some t := ⟨_, List.getElem?_eq_getElem (by exact hk)⟩
theorem min_le (n : Int) (k : Nat) : (k : Int) < min n 4 ↔ k < cntI n := by unfold cntI; omega

set_option maxRecDepth 20000 in
set_option maxHeartbeats 4000000 in
theorem Apply_any (A : Option Addr) (l : List BindD) (ca : Nat) (a : AtomD) (w : World) (hL : BL w A ca l) (hl : l.length ≤ 1000000) :
    Calls Tryd.prog 27 #[.slice A l.length ca, .agg #[.string a.says, .string a.pred, .int .i64 a.n, .bool a.t0.v, .string a.t0.name, .bool a.t1.v, .string a.t1.name, .bool a.t2.v, .string a.t2.name, .bool a.t3.v, .string a.t3.name]] w fun e w' => (∃ q, RowKit.Hid (q = applyA l a) ∧ e = .returned (.agg #[.string q.says, .string q.pred, .int .i64 q.n, .bool q.t0.v, .string q.t0.name, .bool q.t1.v, .string q.t1.name, .bool q.t2.v, .string q.t2.name, .bool q.t3.v, .string q.t3.name])) ∧ Bel w w' := by
  have HL := Lib.hid hL
  clear hL
  have g1 := bel_alloc w (.cells #[.string a.says, .string a.pred, .int .i64 a.n, .bool a.t0.v, .string a.t0.name, .bool a.t1.v, .string a.t1.name, .bool a.t2.v, .string a.t2.name, .bool a.t3.v, .string a.t3.name] 30)
  have hA := AtomAt.new w a
  have g2 := bel_alloc (w.alloc (.cells #[.string a.says, .string a.pred, .int .i64 a.n, .bool a.t0.v, .string a.t0.name, .bool a.t1.v, .string a.t1.name, .bool a.t2.v, .string a.t2.name, .bool a.t3.v, .string a.t3.name] 30)) (.cells #[.string zeroA.says, .string zeroA.pred, .int .i64 zeroA.n, .bool zeroA.t0.v, .string zeroA.t0.name, .bool zeroA.t1.v, .string zeroA.t1.name, .bool zeroA.t2.v, .string zeroA.t2.name, .bool zeroA.t3.v, .string zeroA.t3.name] 30)
  have hZ := AtomAt.new (w.alloc (.cells #[.string a.says, .string a.pred, .int .i64 a.n, .bool a.t0.v, .string a.t0.name, .bool a.t1.v, .string a.t1.name, .bool a.t2.v, .string a.t2.name, .bool a.t3.v, .string a.t3.name] 30)) zeroA
  rw [show (w.alloc (.cells #[.string a.says, .string a.pred, .int .i64 a.n, .bool a.t0.v, .string a.t0.name, .bool a.t1.v, .string a.t1.name, .bool a.t2.v, .string a.t2.name, .bool a.t3.v, .string a.t3.name] 30)).heap.size = w.heap.size + 1 by simp] at hZ
  have hA := hA.bel g2
  have hb := g1.trans' g2
  obtain ⟨d0, d1, d2, _⟩ := hA.cells
  simp only [zeroA, zeroT] at hb hA d0 d1 d2
  have HB0 := Lib.hid hb
  have HA0 := Lib.hid hA
  have HZ0 := Lib.hid hZ
  have hc4 := cntI_le a.n
  clear g1 g2 hb hA hZ
  have hmin := min_le a.n
  generalize hcc : cntI a.n = c at hc4 hmin
  have HC := Lib.hid hcc
  clear hcc
  obtain ⟨mn, hmn⟩ : ∃ mn, mn = min a.n 4 := ⟨_, rfl⟩
  rw [← hmn] at hmin
  have HM := Lib.hid hmn
  go_enter Tryd.func27, Tryd.ntmps27
  go_wp2
  simp only [← hmn]
  clear hmn
  go_loopw [9] (fun i wr => ∃ k : Nat, k ≤ c ∧ i = .int .i64 k ∧ RowKit.Hid (Bel w wr ∧ AtomAt wr w.heap.size (appK l a k) ∧ AtomAt wr (w.heap.size + 1) zeroA)) (fun i _ => c - (intOf i).toNat)
  case atStart => exact ⟨0, Nat.zero_le _, rfl, Lib.hid ⟨HB0.out, HA0.out, HZ0.out⟩⟩
  case round =>
    obtain ⟨k, hk, rfl, H⟩ := hrel
    clear HB0 HA0 HZ0 d0 d1 d2
    have hA := H.out.2.1
    have hb := H.out.1
    have hZ := H.out.2.2
    clear H
    have hlt2 : w.heap.size < w.heap.size + 1 := by omega
    by_cases hlt : k < c
    · have hk4 : k < 4 := by omega
      have hq : (0 : Int) ≤ k := by omega
      have hq1 : (k : Int) < 4 := by omega
      have hq2 : (k : Int) < mn := (hmin k).2 hlt
      obtain ⟨t, ht⟩ := args_some a k hk4
      obtain ⟨e1, e2⟩ := appK_step l a k hk4 t ht
      have HS := Lib.hid e2
      obtain ⟨_, _, e3, _, c1, c2⟩ := hA.terms k (by exact hk4)
      injection e3 with e3
      injection e3 with e3 e4
      subst e3 e4
      have e5 : (argsD (appK l a k))[k]'(by exact hk4) = t := by
        rw [List.getElem?_eq_getElem (by exact hk4)] at e1
        injection e1
      rw [e5] at c1 c2
      clear e1 e2 e5 ht
      have hT := Lib.hid (Term_any A l ca t wr (HL.out.bel hb) hl)
      obtain ⟨tv, ts⟩ := t
      simp only at c1 c2
      go_wp2_with (first | (go_at_call 25; refine hT.out.mono ?_; rintro e w1 ⟨⟨u, HU, rfl⟩, hg⟩; have hA := hA.bel hg; have hZ := hZ.bel hg; have hb := hb.trans' hg; clear hg) | ((with_reducible refine wpList_store_arg ?_ (.tmp 20) (.tmp 18) ?_ w.heap.size k u ?_ ?_ hA hk4 ?_); rfl; rfl; rfl; rfl; intro w3 hA3 hb3 ho3))
      go_roundw
      case rel =>
        refine ⟨k + 1, by omega, by go_num, Lib.hid ⟨hb.trans hb3, ?_, (ho3 _ (by omega)).trans hZ⟩⟩
        rw [← HS.out, ← HU.out]; exact hA3
      case measure => simp [intOf]; omega
    · obtain rfl : k = c := by omega
      have hq2 : ¬ (k : Int) < mn := fun h => hlt ((hmin k).1 h)
      have HQ : RowKit.Hid (appK l a k = applyA l a) := Lib.hid (by rw [← HC.out]; rfl)
      obtain ⟨q, hq⟩ : ∃ q, q = appK l a k := ⟨_, rfl⟩
      rw [← hq] at hA
      have HQ2 := Lib.hid (hq.trans HQ.out)
      clear hq HQ
      obtain ⟨f0, f1, f2, f3, f4, f5, f6, f7, f8, f9, f10⟩ := hA.cells
      go_wp2_with ((with_reducible refine wpList_store_atom ?_ (.tmp 4) (.tmp 22) ?_ (w.heap.size + 1) q ?_ ?_ hZ ?_); rfl; rfl; rfl; rfl; intro w3 hR hb3 _; have hb := hb.trans (hb3.mono (Nat.le_succ _)); clear hb3)
      try simp only [Exit.inBlock, Exit.then]
      refine bodyPost_ret (results_atom rfl _ _ _ _ rfl hR) rfl ?_
      exact ⟨⟨_, HQ2, rfl⟩, hb⟩
end Go.Proofs.YtkcnbdlhggoojaaDoor
