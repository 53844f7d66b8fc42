/-
  Finding in an ascending list. Conditions: as each says. What a variable is bound to in an ascending list. Conditions: as each says. What a variable is bound to in any list; a term under bindings. Conditions: as each says. A term under bindings; whether a binding is to itself. Conditions: as each says. Which bindings are valid; an atom under bindings. Conditions: as each says. An atom under bindings. Conditions: as each says. Lists of bindings that a call makes: one more, several more. The bindings of a list under others. Conditions: as each says. Appending several bindings, and to a list that is not the call's own; a list with one more binding; those that others do not bind. Conditions: as each says. A list with one more binding. Conditions: as each says. Two lists of bindings joined. Conditions: as each says.
-/
import Derived.Test.YtiokjjiakcbmhaaDoorSgA
import Derived.Test.YtiokjjiakcbmhaaDoorTgC
import Derived.Laws.ResultCell
import Derived.Deep.RegionHeld3
import Derived.Deep.RegionLawGrows
namespace Go.Proofs.YtiokjjiakcbmhaaDoor
open Go.RowKit

end Go.Proofs.YtiokjjiakcbmhaaDoor
namespace Go.Proofs.YtiokjjiakcbmhaaDoor
open Go.RowKit

theorem TermAt.lt {w : World} {b : Nat} {t : TermD} (h : TermAt w b t) : b < w.heap.size := (Array.getElem?_eq_some_iff.1 h).1
theorem store_term {w : World} {b : Nat} {t0 : TermD} (h : TermAt w b t0) (q : TermD) : ∃ w3, (storeVar 24 ⟨b, 0, none⟩ (.agg #[.bool q.v, .string q.name])).run Tryd.prog w = .ok () w3 ∧ TermAt w3 b q ∧ Below b w w3 ∧ ∀ k, k ≠ b → w3.heap[k]? = w.heap[k]? :=
  ⟨_, run_storeVar_row w b 24 24 _ #[.bool q.v, .string q.name] h (by kernel_rfl) rfl (by simp [Value.oneCell']), setRow_heap w b _ _ 24 _ h, ⟨rfl, rfl, rfl, by simp [World.setRow], fun k hk => setRow_other w b k _ (by omega)⟩, fun k hk => setRow_other w b k _ hk⟩
theorem load_term {w : World} {g : Nat} {q : TermD} (h : TermAt w g q) : (loadVar 24 ⟨g, 0, none⟩).run Tryd.prog w = .ok (.agg #[.bool q.v, .string q.name]) w :=
  run_loadVar_row w g 24 24 _ (0, 0) _ h Tryd.underlying24 rfl (by kernel_rfl)
theorem results_term {fn : Func} {p : Tmp} (h : fn.results = #[.cell p 24]) (tmps : Array Value) (w : World) (g : Nat) (q : TermD) (hp : tmps.getD p undef = .pointer (some ⟨g, 0, none⟩)) (hg : TermAt w g q) :
    (results fn tmps).run Tryd.prog w = .ok (.agg #[.bool q.v, .string q.name]) w :=
  results_cell_row h tmps w g 24 _ (0, 0) _ hp hg Tryd.underlying24 rfl (by kernel_rfl)
theorem results_term2 {fn : Func} {p u : Tmp} (h : fn.results = #[.cell p 24, .tmp u]) (tmps : Array Value) (w : World) (g : Nat) (q : TermD) (hp : tmps.getD p undef = .pointer (some ⟨g, 0, none⟩)) (hg : TermAt w g q) :
    (results fn tmps).run Tryd.prog w = .ok (.tuple #[.agg #[.bool q.v, .string q.name], tmps.getD u undef]) w := by
  rw [results_cell_tmp h, hp]
  simp [asAddr, load_term hg, Result.andThen]
theorem wpList_store_term {ops : Array Oper} {rest : List Oper} {o : Oper} {a : Act} {w : World} {Q : Exit → Act → World → Prop} (hgd : o.guard = none) (x y : Operand) (ho : o.op = .store 24 x y) (g : Nat) (q : TermD)
    (hx : a.eval x = .pointer (some ⟨g, 0, none⟩)) (hy : a.eval y = .agg #[.bool q.v, .string q.name]) {a0 : TermD} (hg : TermAt w g a0)
    (h : ∀ w', TermAt w' g q → Below g w w' → (∀ k, k ≠ g → w'.heap[k]? = w.heap[k]?) → wpList Tryd.prog ops Q rest (a.put o.dst undef) w') : wpList Tryd.prog ops Q (o :: rest) a w := by
  obtain ⟨w3, hst, h1, h2, h3⟩ := store_term hg q
  refine wpList_plain hgd fun _ hK => ?_
  unfold Oper.wp execOp
  simp only [ho, hx, hy, Instr.storeAt, Instr.sureAddr, Sem.run_bind, Sem.run_pure, Result.andThen_ok, hst]
  exact hK _ _ (h w3 h1 h2 h3)

def getR (l : List BindD) (v : ByteArray) : TermD × Bool := match getB l v with
  | some t => (t, true)
  | none => (zeroT, false)
theorem getR_some {l : List BindD} {v : ByteArray} {t : TermD} (h : getB l v = some t) : getR l v = (t, true) := by unfold getR; rw [h]
theorem getR_none {l : List BindD} {v : ByteArray} (h : getB l v = none) : getR l v = (zeroT, false) := by unfold getR; rw [h]
theorem getR_snd (l : List BindD) (v : ByteArray) : (getR l v).2 = (getB l v).isSome := by unfold getR; cases getB l v <;> rfl
theorem get_hit {l : List BindD} {v : ByteArray} (hA : Asc l) (h : placeN l v < l.length) (e : l[placeN l v].v = v) : getB l v = some l[placeN l v].t := by
  have := getB_of_mem hA (List.getElem_mem h)
  rwa [e] at this
theorem get_miss {l : List BindD} {v : ByteArray} (hA : Asc l) (h : ∀ h : placeN l v < l.length, l[placeN l v].v ≠ v) : getB l v = none := by
  obtain ⟨s1, s2⟩ := place_split (v := v) hA
  rw [getB_none]
  intro b hb
  rw [← List.take_append_drop (placeN l v) l] at hb
  rcases List.mem_append.1 hb with hb | hb
  · exact ltS_ne (s1 b hb)
  · obtain ⟨i, hi, rfl⟩ := List.mem_iff_getElem.1 hb
    rw [List.length_drop] at hi
    have hm : placeN l v < l.length := by omega
    have h0 : ltS l[placeN l v].v v = false := s2 _ (by
      have : l[placeN l v] = (l.drop (placeN l v))[0]'(by rw [List.length_drop]; omega) := by rw [List.getElem_drop]; simp
      rw [this]; exact List.getElem_mem _)
    have hlt : ltS v l[placeN l v].v = true := by
      cases q : ltS v l[placeN l v].v with
      | true => rfl
      | false => exact absurd (ltS_tri h0 q) (h hm)
    rw [List.getElem_drop]
    by_cases e : i = 0
    · subst e; simpa using h hm
    · exact (ltS_ne (ltS_trans hlt (List.pairwise_iff_getElem.1 hA (placeN l v) (placeN l v + i) hm (by omega) (by omega)))).symm

end Go.Proofs.YtiokjjiakcbmhaaDoor
namespace Go.Proofs.YtiokjjiakcbmhaaDoor
open Go.RowKit

def lenV : Value → Nat
  | .slice _ n _ => n
  | _ => 0
theorem getR_take {l : List BindD} {n : Nat} {v : ByteArray} {t : TermD} (h : getR (l.take n) v = (t, true)) : getR l v = (t, true) := by
  unfold getR at h
  cases e : getB (l.take n) v with
  | none => rw [e] at h; cases h
  | some u =>
    rw [e] at h
    injection h with h _
    subst h
    refine getR_some ?_
    rw [← List.take_append_drop n l, getB_append, e]
    rfl
theorem getR_drop {l : List BindD} {n : Nat} {v : ByteArray} {t : TermD} (h : getR (l.take n) v = (t, false)) : getR (l.drop n) v = getR l v := by
  unfold getR at h
  cases e : getB (l.take n) v with
  | some u => rw [e] at h; cases h
  | none =>
    have : getB l v = getB (l.drop n) v := by
      conv => lhs; rw [← List.take_append_drop n l]
      rw [getB_append, e]
      rfl
    unfold getR
    rw [this]
theorem getR_nil (v : ByteArray) : getR [] v = (zeroT, false) := rfl
theorem SliceAt.dropCap {α : Type} {enc : α → List Value} {k : Nat} {w : World} {b o ca : Nat} {l : List α} (h : SliceAt enc k w (some ⟨b, o, none⟩) ca l) (m : Nat) : SliceAt enc k w (some ⟨b, o + m * k, none⟩) (ca - m) (l.drop m) :=
  ⟨h.items.drop m, by have := h.le; rw [List.length_drop]; omega, (fun e => by cases e), fun a e _ => ⟨_, _, (by injection e with e; exact e.symm)⟩⟩
theorem SliceAt.empty {α : Type} {enc : α → List Value} {k : Nat} {w : World} {b o ca ca' : Nat} {l : List α} (_h : SliceAt enc k w (some ⟨b, o, none⟩) ca l) : SliceAt enc k w (some ⟨b, o, none⟩) ca' ([] : List α) :=
  ⟨ItemsAt.nil _ _, by simp, (fun e => by cases e), fun a e _ => ⟨_, _, (by injection e with e; exact e.symm)⟩⟩

end Go.Proofs.YtiokjjiakcbmhaaDoor
namespace Go.Proofs.YtiokjjiakcbmhaaDoor
open Go.RowKit

theorem sub_const {l : List BindD} {t : TermD} (h : t.v = false) : subT l t = t := by unfold subT; rw [h]; simp
theorem sub_hit {l : List BindD} {t u : TermD} (h : t.v = true) (k : getR l t.name = (u, true)) : subT l t = u := by
  unfold getR at k
  unfold subT
  rw [if_pos h]
  cases e : getB l t.name with
  | none => rw [e] at k; cases k
  | some x => rw [e] at k; injection k
theorem sub_miss {l : List BindD} {t u : TermD} (k : getR l t.name = (u, false)) : subT l t = t := by
  unfold getR at k
  unfold subT
  cases e : getB l t.name with
  | none => simp
  | some x => rw [e] at k; cases k

end Go.Proofs.YtiokjjiakcbmhaaDoor
namespace Go.Proofs.YtiokjjiakcbmhaaDoor
open Go.RowKit

theorem err_asc {l : List BindD} (h : ¬ Asc l) : errB l = 15 := by unfold errB; rw [if_neg]; rw [checkB_iff]; exact fun k => h k.1
theorem err_bad {l : List BindD} {b : BindD} (hb : b ∈ l) (h : goodB l b = false) : errB l = 15 := by
  unfold errB
  rw [if_neg]
  unfold checkB
  rw [Bool.and_eq_true, List.all_eq_true]
  exact fun k => by have := k.2 b hb; rw [h] at this; cases this
theorem err_ok {l : List BindD} (h : Asc l) (k : (l.take l.length).all (goodB l) = true) : errB l = 0 := by
  unfold errB
  rw [if_pos]
  unfold checkB AscB
  rw [List.take_length] at k
  simp [h, k]
theorem good_emp {l : List BindD} {v : ByteArray} {tv : Bool} : goodB l ⟨v, tv, ⟨#[]⟩⟩ = false := by unfold goodB; simp [emp]
theorem good_const {l : List BindD} {v s : ByteArray} (h : s ≠ emp) : goodB l ⟨v, false, s⟩ = true := by unfold goodB; simp [h]
theorem good_var {l : List BindD} {v s : ByteArray} (h : s ≠ emp) : goodB l ⟨v, true, s⟩ = !(getB l s).isSome := by unfold goodB; simp [h]
theorem all_succ {α : Type} {l : List α} {f : α → Bool} {k : Nat} (h : k < l.length) (h1 : (l.take k).all f = true) (h2 : f l[k] = true) : (l.take (k + 1)).all f = true := by
  rw [List.take_add_one, List.getElem?_eq_getElem h, List.all_append, h1]; simp [h2]
theorem ne_emp {s : ByteArray} (h : s ≠ emp) : ¬ s.toList = [] := fun e => h ((toList_emp s).1 e)

end Go.Proofs.YtiokjjiakcbmhaaDoor
namespace Go.Proofs.YtiokjjiakcbmhaaDoor
open Go.RowKit

def appK (l : List BindD) (a : AtomD) (k : Nat) : AtomD :=
  ⟨a.says, a.pred, a.n, if 0 < k then subT l a.t0 else a.t0, if 1 < k then subT l a.t1 else a.t1, if 2 < k then subT l a.t2 else a.t2, if 3 < k then subT l a.t3 else a.t3⟩
theorem appK_all (l : List BindD) (a : AtomD) : appK l a (cntI a.n) = applyA l a := rfl
theorem appK_zero (l : List BindD) (a : AtomD) : appK l a 0 = a := rfl
theorem appK_step (l : List BindD) (a : AtomD) (k : Nat) (hk : k < 4) (t : TermD) (ht : (argsD a)[k]? = some t) : (argsD (appK l a k))[k]? = some t ∧ setArg (appK l a k) k (subT l t) = appK l a (k + 1) := by
  obtain rfl | rfl | rfl | rfl : k = 0 ∨ k = 1 ∨ k = 2 ∨ k = 3 := by omega
  all_goals
    simp only [argsD, List.getElem?_cons_zero, List.getElem?_cons_succ, Option.some.injEq] at ht
    subst ht
    exact ⟨rfl, rfl⟩
theorem args_some (a : AtomD) (k : Nat) (hk : k < 4) : ∃ t, (argsD a)[k]? = some t := ⟨_, List.getElem?_eq_getElem (by exact hk)⟩
theorem min_le (n : Int) (k : Nat) : (k : Int) < min n 4 ↔ k < cntI n := by unfold cntI; omega

end Go.Proofs.YtiokjjiakcbmhaaDoor
namespace Go.Proofs.YtiokjjiakcbmhaaDoor
open Go.RowKit

theorem info_B : ∃ i, Tryd.prog.info? 43 = some i ∧ i.zero = some (.agg #[.string ⟨#[]⟩, .bool false, .string ⟨#[]⟩]) ∧ i.size = 3 ∧ i.bytes = 40 := by
  have h : (Tryd.prog.info? 43).map (fun i => (i.zero, i.size, i.bytes)) = some (some (.agg #[.string ⟨#[]⟩, .bool false, .string ⟨#[]⟩]), 3, 40) := by kernel_rfl
  cases hq : Tryd.prog.info? 43 with
  | none => rw [hq] at h; cases h
  | some i =>
    rw [hq] at h
    injection h with h
    injection h with h1 h2
    injection h2 with h2 h3
    exact ⟨i, rfl, h1, h2, h3⟩
abbrev OB (w W : World) (q : Option Addr) (c : Nat) (l : List BindD) : Prop := OwnL encB 3 43 w W (.slice q l.length c) l
theorem OB.nil (w : World) {W : World} (hb : Bel w W) : OB w W none 0 [] := OwnL.nil w hb
theorem news_one (w : World) (b : BindD) : ∀ j u, (encB b)[j]? = some u → (w.alloc (.cells #[.string b.v, .bool b.t.v, .string b.t.name] 43)).cell? ((⟨w.heap.size, 0, none⟩ : Addr).add j) = some u := fun j u h => by
  rw [addr_at, Nat.zero_add]
  exact cell_of_block (heap_alloc_new w _) (by rw [← Array.getElem?_toList]; exact h)
theorem wpList_push {ops : Array Oper} {rest : List Oper} {o : Oper} {a : Act} {w W : World} {Q : Exit → Act → World → Prop} (hgd : o.guard = none) (s x : Operand) (t : TypeId) (ht : Tryd.prog.underlying t = some (.slice 43))
    (ho : o.op = .call { callee := .builtin .append, args := #[s, x], argTypes := #[t, t] }) {q : Option Addr} {c : Nat} {out : List BindD} (b : BindD) (hs : a.eval s = .slice q out.length c) (hx : a.eval x = .slice (some ⟨W.heap.size, 0, none⟩) 1 1)
    (hO : OB w W q c out) (hl : out.length ≤ 2000000)
    (h : ∀ q' c' w' out', RowKit.Hid (out' = out ++ [b]) → RowKit.Hid (OB w w' q' c' out') → wpList Tryd.prog ops Q rest (a.put o.dst (.slice q' out'.length c')) w') :
    wpList Tryd.prog ops Q (o :: rest) a (W.alloc (.cells #[.string b.v, .bool b.t.v, .string b.t.name] 43)) := by
  obtain ⟨i0, hi, hz0, hz1, hz2⟩ := info_B
  have hO2 := hO.bel' (bel_alloc W (.cells #[.string b.v, .bool b.t.v, .string b.t.name] 43))
  refine wpList_append_mine _ hgd s x t ho 43 i0 _ 3 40 ht hi hz0 hz1 hz2 rfl (by decide) (.slice q out.length c) out.length (flatL encB out) hs hO2.row _ 1 1 (encB b) hx rfl (news_one W b) (EB.one b) (by unfold maxLen; omega) (by omega) ?_
  intro v2 w2 ho2 hf2 hn2
  have hP := OwnL.push (x := b) hO (bel_alloc W (.cells #[.string b.v, .bool b.t.v, .string b.t.name] 43)) ho2 hf2 hn2
  obtain ⟨q', c', rfl⟩ := hP.value
  exact h q' c' w2 (out ++ [b]) (Lib.hid rfl) (Lib.hid hP)

theorem OwnL.keep {α : Type} {enc : α → List Value} {k e : Nat} {w wr W W' : World} {v : Value} {l : List α} (h0 : OwnL enc k e w wr v l) (h : OwnL enc k e w W v l) (hg : Below wr.heap.size W W') : OwnL enc k e w W' v l := by
  refine ⟨?_, h.bel.trans (hg.mono h0.bel.size), h.new⟩
  obtain ⟨h1, h2⟩ := h.row
  refine ⟨h1, ?_⟩
  rcases h2 with h2 | ⟨g, cap, cur, rfl, hb, hh, r⟩
  · exact .inl h2
  · exact .inr ⟨g, cap, cur, rfl, hb, (hg.block g (row_lt h0.row rfl)).trans hh, r⟩
theorem store_bterm {w : World} {b : Nat} {x : BindD} (h : BindAt w b x) (u : TermD) : ∃ w3, (storeVar 24 ⟨b, 1, none⟩ (.agg #[.bool u.v, .string u.name])).run Tryd.prog w = .ok () w3 ∧ BindAt w3 b ⟨x.v, u⟩ ∧ Below b w w3 := by
  obtain ⟨i0, hq, _, hz1, _⟩ := info_parts2
  have hst := run_storeCells_at Tryd.prog b 1 43 [.bool u.v, .string u.name] 0 _ w h (by simp) (termCells_one [u])
  have e : (storeVar 24 ⟨b, 1, none⟩ (.agg #[.bool u.v, .string u.name])).run Tryd.prog w = (storeCells ⟨b, 1, none⟩ [.bool u.v, .string u.name] 0).run Tryd.prog w := by
    simp [storeVar, sizeOf, typeInfo, hq, Value.cells, hz1]
  refine ⟨_, e.trans hst, ?_, ⟨rfl, rfl, rfl, by simp [World.setRow], fun k hk => setRow_other w b k _ (by omega)⟩⟩
  unfold BindAt
  rw [setRow_heap w b _ _ 43 _ h]
  rfl
theorem wpList_store_bterm {ops : Array Oper} {rest : List Oper} {o : Oper} {a : Act} {w : World} {Q : Exit → Act → World → Prop} (hgd : o.guard = none) (x y : Operand) (ho : o.op = .store 24 x y) (g : Nat) (u : TermD)
    (hx : a.eval x = .pointer (some ⟨g, 1, none⟩)) (hy : a.eval y = .agg #[.bool u.v, .string u.name]) {a0 : BindD} (hg : BindAt w g a0)
    (h : ∀ w', BindAt w' g ⟨a0.v, u⟩ → Below g w w' → wpList Tryd.prog ops Q rest (a.put o.dst undef) w') : wpList Tryd.prog ops Q (o :: rest) a w := by
  obtain ⟨w3, hst, h1, h2⟩ := store_bterm hg u
  refine wpList_plain hgd fun _ hK => ?_
  unfold Oper.wp execOp
  simp only [ho, hx, hy, Instr.storeAt, Instr.sureAddr, Sem.run_bind, Sem.run_pure, Result.andThen_ok, hst]
  exact hK _ _ (h w3 h1 h2)

theorem und_succ {l m : List BindD} {k : Nat} {x : BindD} (h : l[k]? = some x) : undB (l.take (k + 1)) m = undB (l.take k) m ++ (if selfB ⟨x.v, subT m x.t⟩ then [] else [⟨x.v, subT m x.t⟩]) := by
  unfold undB
  rw [List.take_add_one, h, List.map_append, List.filter_append]
  congr 1
  simp only [Option.toList, List.map_cons, List.map_nil, List.filter_cons, List.filter_nil]
  cases selfB ⟨x.v, subT m x.t⟩ <;> rfl
theorem und_len (l m : List BindD) : (undB l m).length ≤ l.length := by
  unfold undB
  exact Nat.le_trans (List.length_filter_le _ _) (by rw [List.length_map]; exact Nat.le_refl _)

end Go.Proofs.YtiokjjiakcbmhaaDoor
namespace Go.Proofs.YtiokjjiakcbmhaaDoor
open Go.RowKit

theorem OwnL.of_fresh {α : Type} {enc : α → List Value} {k e : Nat} {w w' : World} {v : Value} {n : Nat} {l : List α} (E : EncK enc k) (h : w'.ownsRow w.heap.size e k v n (flatL enc l)) (hg : w.grownBy w' none) : OwnL enc k e w w' v l := by
  have hn : n = l.length := by have := h.1; rw [flat_len E] at this; exact (Nat.eq_of_mul_eq_mul_right E.pos this).symm
  subst hn
  refine ⟨⟨h.1, ?_⟩, (Fr.of_grown (F := []) hg (by simp)).below (by simp) (Nat.le_refl _), fun g hgv => (h.lt g hgv).1⟩
  rcases h.2 with h2 | ⟨g, cap, cur, r, hb, rest⟩
  · exact .inl h2
  · exact .inr ⟨g, cap, cur, r, Nat.zero_le _, rest⟩
theorem SliceAt.loadAny {α : Type} {enc : α → List Value} {k : Nat} {w : World} {ad : Addr} {ca : Nat} {l : List α} (h : SliceAt enc k w (some ad) ca l) (E : EncK enc k) : ∀ j v, (flatL enc l)[j]? = some v → w.cell? (ad.add j) = some v := by
  cases l with
  | nil => intro j v hj; simp [flatL] at hj
  | cons x l =>
    obtain ⟨b0, o0, rfl⟩ := h.lt ad rfl (by have := h.le; simp at this; omega)
    exact h.items.load E
section
variable {ops : Array Oper} {o : Oper} {a : Act} {K : Act → World → Prop} {Q : Exit → Act → World → Prop} {E : Prop} {W : World}
theorem step_fresh (hg : o.guard = none) (s x : Operand) (t : TypeId) (ht : Tryd.prog.underlying t = some (.slice 43)) (ho : o.op = .call { callee := .builtin .append, args := #[s, x], argTypes := #[t, t] })
    {A : Option Addr} {i g : Nat} {pre : List BindD} (b : BindD) (hs : a.eval s = .slice A i i) (hx : a.eval x = .slice (some ⟨g, 0, none⟩) 1 1) (hS : SliceAt encB 3 W A i pre) (hl : pre.length = i) (hi : i ≤ 2000000)
    (hnews : ∀ j u, (encB b)[j]? = some u → W.cell? ((⟨g, 0, none⟩ : Addr).add j) = some u)
    (h : ∀ q' c' w' out', RowKit.Hid (out' = pre ++ [b]) → RowKit.Hid (OB W w' q' c' out') → K (a.put o.dst (.slice q' out'.length c')) w') :
    if Region.wanted o (yielded ops a.tmps) = true then Oper.wp Tryd.prog o a W K Q else E := by
  obtain ⟨i0, hi0, hz0, hz1, hz2⟩ := info_B
  refine step_append_grows hg s x t ho 43 i0 _ 3 40 ht hi0 hz0 hz1 hz2 rfl (by decide) A i i (flatL encB pre) hs (fun e => ⟨hS.nil e, hS.nil e⟩) (by rw [flat_len EB, hl]) (fun b' e j u hu => ?_) _ 1 1 (encB b) hx rfl hnews (EB.one b) (by omega) (by unfold maxLen; omega) (by omega) ?_
  · have hi0 : 0 < i := by
      cases pre with
      | nil => simp [flatL] at hu
      | cons y pre => simp at hl; omega
    obtain ⟨b0, o0, rfl⟩ := hS.lt b' e hi0
    subst e
    exact hS.items.load EB j u hu
  · intro v' w' hown hgrow
    have hP : OwnL encB 3 43 W w' v' (pre ++ [b]) := OwnL.of_fresh EB (by rw [flat_append, flat_one]; exact hown) hgrow
    obtain ⟨q', c', rfl⟩ := hP.value
    exact h q' c' w' (pre ++ [b]) (Lib.hid rfl) (Lib.hid hP)
theorem step_pushes (hg : o.guard = none) (s x : Operand) (t : TypeId) (ht : Tryd.prog.underlying t = some (.slice 43)) (ho : o.op = .call { callee := .builtin .append, args := #[s, x], argTypes := #[t, t] })
    {w : World} {q : Option Addr} {c : Nat} {out : List BindD} {A : Option Addr} {n cm : Nat} {m : List BindD} (hs : a.eval s = .slice q out.length c) (hx : a.eval x = .slice A n cm) (hO : OB w W q c out) (hM : SliceAt encB 3 W A cm m) (hn : m.length = n)
    (hl : out.length + n ≤ 2000000)
    (h : ∀ q' c' w' out', RowKit.Hid (out' = out ++ m) → RowKit.Hid (OB w w' q' c' out') → Fr (Value.slice q out.length c).ownBlock.toList W w' → (∀ g, (Value.slice q' out'.length c').ownBlock = some g → (Value.slice q out.length c).ownBlock = some g ∨ W.heap.size ≤ g) → K (a.put o.dst (.slice q' out'.length c')) w') :
    if Region.wanted o (yielded ops a.tmps) = true then Oper.wp Tryd.prog o a W K Q else E := by
  obtain ⟨i0, hi0, hz0, hz1, hz2⟩ := info_B
  subst hn
  cases A with
  | some ad =>
    refine step_append_mine W hg s x t ho 43 i0 _ 3 40 ht hi0 hz0 hz1 hz2 rfl (by decide) (.slice q out.length c) out.length (flatL encB out) hs hO.row _ m.length cm (flatL encB m) hx (flat_len EB m) (hM.loadAny EB) (flat_cells EB m) (by unfold maxLen; omega) (by omega) ?_
    intro v2 w2 ho2 hf2 hn2
    have hP := OwnL.grow hO (Below.refl _ _) ho2 hf2 hn2
    obtain ⟨q', c', rfl⟩ := hP.value
    exact h q' c' w2 (out ++ m) (Lib.hid rfl) (Lib.hid hP) hf2 hn2
  | none =>
    have hc := hM.nil rfl
    have hm0 : m = [] := List.eq_nil_of_length_eq_zero (by have := hM.le; omega)
    subst hm0 hc
    have hrun := run_append_owned_none (P := Tryd.prog) (w := W) 0 t o.type 43 i0 3 ht hi0 (.slice q out.length c) out.length (flatL encB out) (by rw [← hz1]; rw [hz1]; exact hO.row)
    have hw : Region.wanted o (yielded ops a.tmps) = true := by simp [Region.wanted, hg]
    rw [if_pos hw]
    unfold Oper.wp execOp
    simp only [ho, resolve, invoke, builtin, Sem.run_bind, Sem.run_pure, Result.andThen_ok, List.map_toArray, List.map_cons, List.map_nil, hs, hx, List.length_nil, hrun]
    have hO' : OB w W q c (out ++ []) := by rw [List.append_nil]; exact hO
    have := h q c W (out ++ []) (Lib.hid rfl) (Lib.hid hO') (Fr.refl _ _) (fun g hg => .inl (by rwa [List.append_nil] at hg))
    rwa [List.append_nil] at this
theorem wpList_pushes {rest : List Oper} (hg : o.guard = none) (s x : Operand) (t : TypeId) (ht : Tryd.prog.underlying t = some (.slice 43)) (ho : o.op = .call { callee := .builtin .append, args := #[s, x], argTypes := #[t, t] })
    {w : World} {q : Option Addr} {c : Nat} {out : List BindD} {A : Option Addr} {n cm : Nat} {m : List BindD} (hs : a.eval s = .slice q out.length c) (hx : a.eval x = .slice A n cm) (hO : OB w W q c out) (hM : SliceAt encB 3 W A cm m) (hn : m.length = n)
    (hl : out.length + n ≤ 2000000)
    (h : ∀ q' c' w' out', RowKit.Hid (out' = out ++ m) → RowKit.Hid (OB w w' q' c' out') → wpList Tryd.prog ops Q rest (a.put o.dst (.slice q' out'.length c')) w') : wpList Tryd.prog ops Q (o :: rest) a W :=
  wpList_plain hg fun K hK => by
    have hw : Region.wanted o (yielded ops a.tmps) = true := by simp [Region.wanted, hg]
    have := step_pushes (ops := ops) (o := o) (a := a) (K := K) (Q := Q) (E := False) hg s x t ht ho hs hx hO hM hn hl (fun q' c' w' out' h1 h2 _ _ => hK _ _ (h q' c' w' out' h1 h2))
    rwa [if_pos hw] at this
end
theorem unb_succ {l m : List BindD} {k : Nat} {x : BindD} (h : l[k]? = some x) : unbB (l.take (k + 1)) m = unbB (l.take k) m ++ (if (getB m x.v).isSome then [] else [x]) := by
  unfold unbB
  rw [List.take_add_one, h, List.filter_append]
  congr 1
  simp only [Option.toList, List.filter_cons, List.filter_nil]
  cases (getB m x.v).isSome <;> rfl
theorem unb_len (l m : List BindD) : (unbB l m).length ≤ l.length := List.length_filter_le _ _

end Go.Proofs.YtiokjjiakcbmhaaDoor
namespace Go.Proofs.YtiokjjiakcbmhaaDoor
open Go.RowKit

theorem OB.bel {w W : World} {q : Option Addr} {c : Nat} {l : List BindD} (h : OB w W q c l) : Below w.heap.size w W := OwnL.bel h
theorem OwnL.base {α : Type} {enc : α → List Value} {k e : Nat} {w w0 W : World} {v : Value} {l : List α} (h : OwnL enc k e w0 W v l) (hg : Bel w w0) : OwnL enc k e w W v l :=
  ⟨h.row, hg.trans (h.bel.mono hg.size), fun g hv => Nat.le_trans hg.size (h.new g hv)⟩
theorem slice_cases {w : World} {A : Option Addr} {ca : Nat} {l : List BindD} (h : BL w A ca l) (i : Nat) (hi : i ≤ l.length) :
    (ca = 0 ∧ l = [] ∧ i = 0) ∨ (∃ b o, A = some ⟨b, o, none⟩ ∧ ca = i ∧ i ≤ l.length) ∨ (∃ b o, A = some ⟨b, o, none⟩ ∧ i < ca) := by
  cases A with
  | none =>
    have h0 := h.nil rfl
    have h1 := h.le
    exact .inl ⟨h0, List.eq_nil_of_length_eq_zero (by omega), by omega⟩
  | some a =>
    have h1 := h.le
    by_cases hc : ca = 0
    · exact .inl ⟨hc, List.eq_nil_of_length_eq_zero (by omega), by omega⟩
    obtain ⟨b, o, rfl⟩ := h.lt a rfl (by omega)
    by_cases e : ca = i
    · exact .inr (.inl ⟨b, o, rfl, e, by omega⟩)
    · exact .inr (.inr ⟨b, o, rfl, by omega⟩)

end Go.Proofs.YtiokjjiakcbmhaaDoor
namespace Go.Proofs.YtiokjjiakcbmhaaDoor
open Go.RowKit

theorem BindAt.lt {w : World} {b : Nat} {x : BindD} (h : BindAt w b x) : b < w.heap.size := (Array.getElem?_eq_some_iff.1 h).1
theorem BindAt.fr {F : List Nat} {w w' : World} {b : Nat} {x : BindD} (h : BindAt w b x) (hf : Fr F w w') (hn : b ∉ F) : BindAt w' b x := hf.at hn h
theorem BindAt.slice {w : World} {b : Nat} {x : BindD} (h : BindAt w b x) : BL w (some ⟨b, 0, none⟩) 1 [x] := by
  refine ⟨ItemsAt.of_load EB h.lt (fun j v hj => ?_), by simp, (fun e => by cases e), fun a e _ => ⟨_, _, (by injection e with e; exact e.symm)⟩⟩
  rw [flat_one] at hj
  rw [Nat.zero_add]
  exact cell_of_block h (by rw [← Array.getElem?_toList]; exact hj)
theorem own_not {q : Option Addr} {n c b : Nat} (h : ∀ g, (Value.slice q n c).ownBlock = some g → g < b ∨ b < g) : b ∉ (Value.slice q n c).ownBlock.toList := fun hm => by
  have := h b (by simpa using hm)
  omega
theorem joinB_cons (l : List BindD) (b : BindD) (m : List BindD) : joinB l (b :: m) = l.take (placeN l b.v) ++ b :: joinB (l.drop (placeN l b.v)) m := rfl
end Go.Proofs.YtiokjjiakcbmhaaDoor
