/-
  Lists of bindings that a call makes: one more, several more. The bindings of a list under others. Conditions: as each says. Appending several bindings, and to a list that is not the call's own; a list with one more binding; those that others do not bind. Conditions: as each says. A list with one more binding. Conditions: as each says. Two lists of bindings joined. Conditions: as each says.
-/
import Derived.Test.YtkcnbdlhggoojaaDoorSgB
import Derived.Deep.RegionHeld3
import Derived.Deep.RegionLawGrows
namespace Go.Proofs.YtkcnbdlhggoojaaDoor
open Go.RowKit

theorem info_B : ∃ i, Tryd.prog.info? 39 = some i ∧ i.zero = some (.agg #[.string ⟨#[]⟩, .bool false, .string ⟨#[]⟩]) ∧ i.size = 3 ∧ i.bytes = 40 := by
  have h : (Tryd.prog.info? 39).map (fun i => (i.zero, i.size, i.bytes)) = some (some (.agg #[.string ⟨#[]⟩, .bool false, .string ⟨#[]⟩]), 3, 40) := by kernel_rfl
  cases hq : Tryd.prog.info? 39 with
  | none => rw [hq] at h; cases h
  | some i =>
    rw [hq] at h
    injection h with h
    injection h with h1 h2
    injection h2 with h2 h3
    exact ⟨i, rfl, h1, h2, h3⟩
abbrev OB (w W : World) (q : Option Addr) (c : Nat) (l : List BindD) : Prop := OwnL encB 3 39 w W (.slice q l.length c) l
theorem OB.nil (w : World) {W : World} (hb : Bel w W) : OB w W none 0 [] := OwnL.nil w hb
theorem news_one (w : World) (b : BindD) : ∀ j u, (encB b)[j]? = some u → (w.alloc (.cells #[.string b.v, .bool b.t.v, .string b.t.name] 39)).cell? ((⟨w.heap.size, 0, none⟩ : Addr).add j) = some u := fun j u h => by
  rw [addr_at, Nat.zero_add]
  exact cell_of_block (heap_alloc_new w _) (by rw [← Array.getElem?_toList]; exact h)
theorem wpList_push {ops : Array Oper} {rest : List Oper} {o : Oper} {a : Act} {w W : World} {Q : Exit → Act → World → Prop} (hgd : o.guard = none) (s x : Operand) (t : TypeId) (ht : Tryd.prog.underlying t = some (.slice 39))
    (ho : o.op = .call { callee := .builtin .append, args := #[s, x], argTypes := #[t, t] }) {q : Option Addr} {c : Nat} {out : List BindD} (b : BindD) (hs : a.eval s = .slice q out.length c) (hx : a.eval x = .slice (some ⟨W.heap.size, 0, none⟩) 1 1)
    (hO : OB w W q c out) (hl : out.length ≤ 2000000)
    (h : ∀ q' c' w' out', RowKit.Hid (out' = out ++ [b]) → RowKit.Hid (OB w w' q' c' out') → wpList Tryd.prog ops Q rest (a.put o.dst (.slice q' out'.length c')) w') :
    wpList Tryd.prog ops Q (o :: rest) a (W.alloc (.cells #[.string b.v, .bool b.t.v, .string b.t.name] 39)) := by
  obtain ⟨i0, hi, hz0, hz1, hz2⟩ := info_B
  have hO2 := hO.bel' (bel_alloc W (.cells #[.string b.v, .bool b.t.v, .string b.t.name] 39))
  refine wpList_append_mine _ hgd s x t ho 39 i0 _ 3 40 ht hi hz0 hz1 hz2 rfl (by decide) (.slice q out.length c) out.length (flatL encB out) hs hO2.row _ 1 1 (encB b) hx rfl (news_one W b) (EB.one b) (by unfold maxLen; omega) (by omega) ?_
  intro v2 w2 ho2 hf2 hn2
  have hP := OwnL.push (x := b) hO (bel_alloc W (.cells #[.string b.v, .bool b.t.v, .string b.t.name] 39)) ho2 hf2 hn2
  obtain ⟨q', c', rfl⟩ := hP.value
  exact h q' c' w2 (out ++ [b]) (Lib.hid rfl) (Lib.hid hP)

theorem OwnL.keep {α : Type} {enc : α → List Value} {k e : Nat} {w wr W W' : World} {v : Value} {l : List α} (h0 : OwnL enc k e w wr v l) (h : OwnL enc k e w W v l) (hg : Below wr.heap.size W W') : OwnL enc k e w W' v l := by
  refine ⟨?_, h.bel.trans (hg.mono h0.bel.size), h.new⟩
  obtain ⟨h1, h2⟩ := h.row
  refine ⟨h1, ?_⟩
  rcases h2 with h2 | ⟨g, cap, cur, rfl, hb, hh, r⟩
  · exact .inl h2
  · exact .inr ⟨g, cap, cur, rfl, hb, (hg.block g (row_lt h0.row rfl)).trans hh, r⟩
theorem store_bterm {w : World} {b : Nat} {x : BindD} (h : BindAt w b x) (u : TermD) : ∃ w3, (storeVar 27 ⟨b, 1, none⟩ (.agg #[.bool u.v, .string u.name])).run Tryd.prog w = .ok () w3 ∧ BindAt w3 b ⟨x.v, u⟩ ∧ Below b w w3 := by
  obtain ⟨i0, hq, _, hz1, _⟩ := info_parts2
  have hst := run_storeCells_at Tryd.prog b 1 39 [.bool u.v, .string u.name] 0 _ w h (by simp) (termCells_one [u])
  have e : (storeVar 27 ⟨b, 1, none⟩ (.agg #[.bool u.v, .string u.name])).run Tryd.prog w = (storeCells ⟨b, 1, none⟩ [.bool u.v, .string u.name] 0).run Tryd.prog w := by
    simp [storeVar, sizeOf, typeInfo, hq, Value.cells, hz1]
  refine ⟨_, e.trans hst, ?_, ⟨rfl, rfl, rfl, by simp [World.setRow], fun k hk => setRow_other w b k _ (by omega)⟩⟩
  unfold BindAt
  rw [setRow_heap w b _ _ 39 _ h]
  rfl
theorem wpList_store_bterm {ops : Array Oper} {rest : List Oper} {o : Oper} {a : Act} {w : World} {Q : Exit → Act → World → Prop} (hgd : o.guard = none) (x y : Operand) (ho : o.op = .store 27 x y) (g : Nat) (u : TermD)
    (hx : a.eval x = .pointer (some ⟨g, 1, none⟩)) (hy : a.eval y = .agg #[.bool u.v, .string u.name]) {a0 : BindD} (hg : BindAt w g a0)
    (h : ∀ w', BindAt w' g ⟨a0.v, u⟩ → Below g w w' → wpList Tryd.prog ops Q rest (a.put o.dst undef) w') : wpList Tryd.prog ops Q (o :: rest) a w := by
  obtain ⟨w3, hst, h1, h2⟩ := store_bterm hg u
  refine wpList_plain hgd fun _ hK => ?_
  unfold Oper.wp execOp
  simp only [ho, hx, hy, Instr.storeAt, Instr.sureAddr, Sem.run_bind, Sem.run_pure, Result.andThen_ok, hst]
  exact hK _ _ (h w3 h1 h2)

theorem und_succ {l m : List BindD} {k : Nat} {x : BindD} (h : l[k]? = some x) : undB (l.take (k + 1)) m = undB (l.take k) m ++ (if selfB ⟨x.v, subT m x.t⟩ then [] else [⟨x.v, subT m x.t⟩]) := by
  unfold undB
  rw [List.take_add_one, h, List.map_append, List.filter_append]
  congr 1
  simp only [Option.toList, List.map_cons, List.map_nil, List.filter_cons, List.filter_nil]
  cases selfB ⟨x.v, subT m x.t⟩ <;> rfl
theorem und_len (l m : List BindD) : (undB l m).length ≤ l.length := by
  unfold undB
  exact Nat.le_trans (List.length_filter_le _ _) (by rw [List.length_map]; exact Nat.le_refl _)

set_option maxRecDepth 20000 in
set_option maxHeartbeats 4000000 in
theorem under_any (A : Option Addr) (l : List BindD) (n ca : Nat) (hn : l.length = n) (B : Option Addr) (m : List BindD) (cb : Nat) (w : World) (hL : BL w A ca l) (hl : l.length ≤ 1000000) (hM : BL w B cb m) (hm : m.length ≤ 1000000) (hA : Asc m) :
    Calls Tryd.prog 41 #[.slice A n ca, .slice B m.length cb] w fun e w' => (∃ q c out, RowKit.Hid (out = undB l m) ∧ RowKit.Hid (OB w w' q c out) ∧ e = .returned (.slice q out.length c)) ∧ Bel w w' := by
  subst hn
  have HL := Lib.hid hL
  have HM := Lib.hid hM
  have HA := Lib.hid hA
  clear hL hM hA
  go_enter Tryd.func41, Tryd.ntmps41
  go_wp2
  go_loopw [5, 10] (fun a5 i wr => ∃ (k : Nat) (out : List BindD) (q : Option Addr) (c : Nat), k ≤ l.length ∧ i = .int .i64 k ∧ a5 = .slice q out.length c ∧ RowKit.Hid (out = undB (l.take k) m ∧ OB w wr q c out)) (fun _ i _ => l.length - (intOf i).toNat)
  case atStart => exact ⟨0, [], none, 0, Nat.zero_le _, rfl, rfl, Lib.hid ⟨rfl, OB.nil _ (Below.refl _ _)⟩⟩
  case round =>
    obtain ⟨k, out, q, c, hk, rfl, rfl, H⟩ := hrel
    have HO := Lib.hid H.out.2
    have HE := Lib.hid H.out.1
    clear H
    by_cases hlt : k < l.length
    · obtain ⟨b, o, rfl, hbb, hc⟩ := bl_get (HL.out.bel HO.out.bel) (by omega)
      obtain ⟨c1, c2, c3⟩ := hc k hlt
      have hq : (0 : Int) ≤ k := by omega
      have hq2 : (k : Int) < l.length := by omega
      have HS := Lib.hid (und_succ (m := m) (List.getElem?_eq_getElem hlt))
      have hol : out.length ≤ 2000000 := by
        have h1 := HE.out
        have h2 := und_len (l.take k) m
        rw [← h1, List.length_take] at h2
        omega
      clear hc hbb
      generalize l[k] = x at c1 c2 c3 HS
      have hX := BindAt.new wr x
      have HO1 := Lib.hid (HO.out.bel' (bel_alloc wr (.cells #[.string x.v, .bool x.t.v, .string x.t.name] 39)))
      obtain ⟨xv, tv, ts⟩ := x
      simp only at c1 c2 c3
      obtain ⟨x1, x2, x3⟩ := hX.cells
      simp only at x1 x2 x3 hX HO1
      have hT := Lib.hid (replaced_G B m m.length cb rfl tv ts _ (HM.out.bel HO1.out.bel) hm HA.out)
      go_wp2_with (first | (go_at_call 43; refine hT.out.mono ?_; rintro e w1 ⟨⟨u, HU, rfl⟩, hg⟩; have hX := hX.bel hg; have HO2 := Lib.hid (HO1.out.bel' hg); clear hg) | ((with_reducible refine wpList_store_bterm ?_ (.tmp 19) (.tmp 18) ?_ wr.heap.size u ?_ ?_ hX ?_); rfl; rfl; rfl; rfl; intro w3 hX3 hb3; have y1 : w3.cell? _ = some (.string xv) := hX3.cells.1; have y2 := hX3.cells.2.1; have y3 := hX3.cells.2.2))
      have HO3 := Lib.hid (HO.out.keep HO2.out hb3)
      have hF := self_any ⟨xv, u⟩ w3
      have HU2 : RowKit.Hid (u = subT m ⟨tv, ts⟩) := HU
      clear HO1 HO2 hX hX3 hb3 x1 x2 x3 hT HU
      cases hv : selfB ⟨xv, u⟩
      · have HN : RowKit.Hid (undB (l.take (k + 1)) m = out ++ [⟨xv, u⟩]) := Lib.hid (by rw [HS.out, ← HE.out, ← HU2.out, hv]; rfl)
        rw [hv] at hF
        have HF := Lib.hid hF
        clear hF hv
        refine HF.out.mono ?_
        rintro e w4 ⟨rfl, hg⟩
        have y1 := cell_bel y1 hg
        have y2 := cell_bel y2 hg
        have y3 := cell_bel y3 hg
        have HO4 := Lib.hid (HO3.out.bel' hg)
        clear hg HF
        go_wp2_with (at_builtin; refine wpList_push rfl (.tmp 23) (.tmp 25) 69 Tryd.underlying69 rfl ⟨xv, u⟩ rfl rfl HO4.out hol ?_; intro q' c' w5 out' HX HO5)
        go_roundw
        case rel => exact ⟨k + 1, out', q', c', by omega, by go_num, rfl, Lib.hid ⟨HX.out.trans HN.out.symm, HO5.out⟩⟩
        case measure => simp [intOf]; omega
      · have HN : RowKit.Hid (undB (l.take (k + 1)) m = out) := Lib.hid (by rw [HS.out, ← HE.out, ← HU2.out, hv]; simp)
        rw [hv] at hF
        have HF := Lib.hid hF
        clear hF hv
        refine HF.out.mono ?_
        rintro e w4 ⟨rfl, hg⟩
        have HO4 := Lib.hid (HO3.out.bel' hg)
        clear hg HF
        go_wp2
        go_roundw
        case rel => exact ⟨k + 1, out, q, c, by omega, by go_num, rfl, Lib.hid ⟨HN.out.symm, HO4.out⟩⟩
        case measure => simp [intOf]; omega
    · obtain rfl : k = l.length := by omega
      have HN : RowKit.Hid (out = undB l m) := Lib.hid (by have := HE.out; rwa [List.take_length] at this)
      go_wp2
      go_ret
      exact ⟨⟨q, c, out, HN, HO, rfl⟩, HO.out.bel⟩
end Go.Proofs.YtkcnbdlhggoojaaDoor
namespace Go.Proofs.YtkcnbdlhggoojaaDoor
open Go.RowKit

theorem OwnL.of_fresh {α : Type} {enc : α → List Value} {k e : Nat} {w w' : World} {v : Value} {n : Nat} {l : List α} (E : EncK enc k) (h : w'.ownsRow w.heap.size e k v n (flatL enc l)) (hg : w.grownBy w' none) : OwnL enc k e w w' v l := by
  have hn : n = l.length := by have := h.1; rw [flat_len E] at this; exact (Nat.eq_of_mul_eq_mul_right E.pos this).symm
  subst hn
  refine ⟨⟨h.1, ?_⟩, (Fr.of_grown (F := []) hg (by simp)).below (by simp) (Nat.le_refl _), fun g hgv => (h.lt g hgv).1⟩
  rcases h.2 with h2 | ⟨g, cap, cur, r, hb, rest⟩
  · exact .inl h2
  · exact .inr ⟨g, cap, cur, r, Nat.zero_le _, rest⟩
theorem SliceAt.loadAny {α : Type} {enc : α → List Value} {k : Nat} {w : World} {ad : Addr} {ca : Nat} {l : List α} (h : SliceAt enc k w (some ad) ca l) (E : EncK enc k) : ∀ j v, (flatL enc l)[j]? = some v → w.cell? (ad.add j) = some v := by
  cases l with
  | nil => intro j v hj; simp [flatL] at hj
  | cons x l =>
    obtain ⟨b0, o0, rfl⟩ := h.lt ad rfl (by have := h.le; simp at this; omega)
    exact h.items.load E
section
variable {ops : Array Oper} {o : Oper} {a : Act} {K : Act → World → Prop} {Q : Exit → Act → World → Prop} {E : Prop} {W : World}
theorem step_fresh (hg : o.guard = none) (s x : Operand) (t : TypeId) (ht : Tryd.prog.underlying t = some (.slice 39)) (ho : o.op = .call { callee := .builtin .append, args := #[s, x], argTypes := #[t, t] })
    {A : Option Addr} {i g : Nat} {pre : List BindD} (b : BindD) (hs : a.eval s = .slice A i i) (hx : a.eval x = .slice (some ⟨g, 0, none⟩) 1 1) (hS : SliceAt encB 3 W A i pre) (hl : pre.length = i) (hi : i ≤ 2000000)
    (hnews : ∀ j u, (encB b)[j]? = some u → W.cell? ((⟨g, 0, none⟩ : Addr).add j) = some u)
    (h : ∀ q' c' w' out', RowKit.Hid (out' = pre ++ [b]) → RowKit.Hid (OB W w' q' c' out') → K (a.put o.dst (.slice q' out'.length c')) w') :
    if Region.wanted o (yielded ops a.tmps) = true then Oper.wp Tryd.prog o a W K Q else E := by
  obtain ⟨i0, hi0, hz0, hz1, hz2⟩ := info_B
  refine step_append_grows hg s x t ho 39 i0 _ 3 40 ht hi0 hz0 hz1 hz2 rfl (by decide) A i i (flatL encB pre) hs (fun e => ⟨hS.nil e, hS.nil e⟩) (by rw [flat_len EB, hl]) (fun b' e j u hu => ?_) _ 1 1 (encB b) hx rfl hnews (EB.one b) (by omega) (by unfold maxLen; omega) (by omega) ?_
  · have hi0 : 0 < i := by
      cases pre with
      | nil => simp [flatL] at hu
      | cons y pre => simp at hl; omega
    obtain ⟨b0, o0, rfl⟩ := hS.lt b' e hi0
    subst e
    exact hS.items.load EB j u hu
  · intro v' w' hown hgrow
    have hP : OwnL encB 3 39 W w' v' (pre ++ [b]) := OwnL.of_fresh EB (by rw [flat_append, flat_one]; exact hown) hgrow
    obtain ⟨q', c', rfl⟩ := hP.value
    exact h q' c' w' (pre ++ [b]) (Lib.hid rfl) (Lib.hid hP)
theorem step_pushes (hg : o.guard = none) (s x : Operand) (t : TypeId) (ht : Tryd.prog.underlying t = some (.slice 39)) (ho : o.op = .call { callee := .builtin .append, args := #[s, x], argTypes := #[t, t] })
    {w : World} {q : Option Addr} {c : Nat} {out : List BindD} {A : Option Addr} {n cm : Nat} {m : List BindD} (hs : a.eval s = .slice q out.length c) (hx : a.eval x = .slice A n cm) (hO : OB w W q c out) (hM : SliceAt encB 3 W A cm m) (hn : m.length = n)
    (hl : out.length + n ≤ 2000000)
    (h : ∀ q' c' w' out', RowKit.Hid (out' = out ++ m) → RowKit.Hid (OB w w' q' c' out') → Fr (Value.slice q out.length c).ownBlock.toList W w' → (∀ g, (Value.slice q' out'.length c').ownBlock = some g → (Value.slice q out.length c).ownBlock = some g ∨ W.heap.size ≤ g) → K (a.put o.dst (.slice q' out'.length c')) w') :
    if Region.wanted o (yielded ops a.tmps) = true then Oper.wp Tryd.prog o a W K Q else E := by
  obtain ⟨i0, hi0, hz0, hz1, hz2⟩ := info_B
  subst hn
  cases A with
  | some ad =>
    refine step_append_mine W hg s x t ho 39 i0 _ 3 40 ht hi0 hz0 hz1 hz2 rfl (by decide) (.slice q out.length c) out.length (flatL encB out) hs hO.row _ m.length cm (flatL encB m) hx (flat_len EB m) (hM.loadAny EB) (flat_cells EB m) (by unfold maxLen; omega) (by omega) ?_
    intro v2 w2 ho2 hf2 hn2
    have hP := OwnL.grow hO (Below.refl _ _) ho2 hf2 hn2
    obtain ⟨q', c', rfl⟩ := hP.value
    exact h q' c' w2 (out ++ m) (Lib.hid rfl) (Lib.hid hP) hf2 hn2
  | none =>
    have hc := hM.nil rfl
    have hm0 : m = [] := List.eq_nil_of_length_eq_zero (by have := hM.le; omega)
    subst hm0 hc
    have hrun := run_append_owned_none (P := Tryd.prog) (w := W) 0 t o.type 39 i0 3 ht hi0 (.slice q out.length c) out.length (flatL encB out) (by rw [← hz1]; rw [hz1]; exact hO.row)
    have hw : Region.wanted o (yielded ops a.tmps) = true := by simp [Region.wanted, hg]
    rw [if_pos hw]
    unfold Oper.wp execOp
    simp only [ho, resolve, invoke, builtin, Sem.run_bind, Sem.run_pure, Result.andThen_ok, List.map_toArray, List.map_cons, List.map_nil, hs, hx, List.length_nil, hrun]
    have hO' : OB w W q c (out ++ []) := by rw [List.append_nil]; exact hO
    have := h q c W (out ++ []) (Lib.hid rfl) (Lib.hid hO') (Fr.refl _ _) (fun g hg => .inl (by rwa [List.append_nil] at hg))
    rwa [List.append_nil] at this
theorem wpList_pushes {rest : List Oper} (hg : o.guard = none) (s x : Operand) (t : TypeId) (ht : Tryd.prog.underlying t = some (.slice 39)) (ho : o.op = .call { callee := .builtin .append, args := #[s, x], argTypes := #[t, t] })
    {w : World} {q : Option Addr} {c : Nat} {out : List BindD} {A : Option Addr} {n cm : Nat} {m : List BindD} (hs : a.eval s = .slice q out.length c) (hx : a.eval x = .slice A n cm) (hO : OB w W q c out) (hM : SliceAt encB 3 W A cm m) (hn : m.length = n)
    (hl : out.length + n ≤ 2000000)
    (h : ∀ q' c' w' out', RowKit.Hid (out' = out ++ m) → RowKit.Hid (OB w w' q' c' out') → wpList Tryd.prog ops Q rest (a.put o.dst (.slice q' out'.length c')) w') : wpList Tryd.prog ops Q (o :: rest) a W :=
  wpList_plain hg fun K hK => by
    have hw : Region.wanted o (yielded ops a.tmps) = true := by simp [Region.wanted, hg]
    have := step_pushes (ops := ops) (o := o) (a := a) (K := K) (Q := Q) (E := False) hg s x t ht ho hs hx hO hM hn hl (fun q' c' w' out' h1 h2 _ _ => hK _ _ (h q' c' w' out' h1 h2))
    rwa [if_pos hw] at this
end
theorem unb_succ {l m : List BindD} {k : Nat} {x : BindD} (h : l[k]? = some x) : unbB (l.take (k + 1)) m = unbB (l.take k) m ++ (if (getB m x.v).isSome then [] else [x]) := by
  unfold unbB
  rw [List.take_add_one, h, List.filter_append]
  congr 1
  simp only [Option.toList, List.filter_cons, List.filter_nil]
  cases (getB m x.v).isSome <;> rfl
theorem unb_len (l m : List BindD) : (unbB l m).length ≤ l.length := List.length_filter_le _ _

end Go.Proofs.YtkcnbdlhggoojaaDoor
namespace Go.Proofs.YtkcnbdlhggoojaaDoor
open Go.RowKit

theorem OB.bel {w W : World} {q : Option Addr} {c : Nat} {l : List BindD} (h : OB w W q c l) : Below w.heap.size w W := OwnL.bel h
theorem OwnL.base {α : Type} {enc : α → List Value} {k e : Nat} {w w0 W : World} {v : Value} {l : List α} (h : OwnL enc k e w0 W v l) (hg : Bel w w0) : OwnL enc k e w W v l :=
  ⟨h.row, hg.trans (h.bel.mono hg.size), fun g hv => Nat.le_trans hg.size (h.new g hv)⟩
theorem slice_cases {w : World} {A : Option Addr} {ca : Nat} {l : List BindD} (h : BL w A ca l) (i : Nat) (hi : i ≤ l.length) :
    (ca = 0 ∧ l = [] ∧ i = 0) ∨ (∃ b o, A = some ⟨b, o, none⟩ ∧ ca = i ∧ i ≤ l.length) ∨ (∃ b o, A = some ⟨b, o, none⟩ ∧ i < ca) := by
  cases A with
  | none =>
    have h0 := h.nil rfl
    have h1 := h.le
    exact .inl ⟨h0, List.eq_nil_of_length_eq_zero (by omega), by omega⟩
  | some a =>
    have h1 := h.le
    by_cases hc : ca = 0
    · exact .inl ⟨hc, List.eq_nil_of_length_eq_zero (by omega), by omega⟩
    obtain ⟨b, o, rfl⟩ := h.lt a rfl (by omega)
    by_cases e : ca = i
    · exact .inr (.inl ⟨b, o, rfl, e, by omega⟩)
    · exact .inr (.inr ⟨b, o, rfl, by omega⟩)

set_option maxRecDepth 20000 in
set_option maxHeartbeats 8000000 in
theorem with_any (A : Option Addr) (l : List BindD) (ca : Nat) (x : BindD) (w : World) (hL : BL w A ca l) (hl : l.length ≤ 1000000) (hA : Asc l) :
    Calls Tryd.prog 42 #[.slice A l.length ca, .agg #[.string x.v, .bool x.t.v, .string x.t.name]] w fun e w' => (∃ q c out, RowKit.Hid (out = withB l x) ∧ RowKit.Hid (OB w w' q c out) ∧ e = .returned (.slice q out.length c)) ∧ Bel w w' := by
  have hb := bel_alloc w (.cells #[.string x.v, .bool x.t.v, .string x.t.name] 39)
  have hX := BindAt.new w x
  have hP := Lib.hid (place_any A l l.length ca rfl x.v _ (hL.bel hb) hl hA)
  have hi := placeN_le l x.v
  have HW : RowKit.Hid (withB l x = (l.take (placeN l x.v) ++ [x]) ++ l.drop (placeN l x.v)) := Lib.hid (by unfold withB; simp)
  generalize placeN l x.v = i at hP hi HW
  have hle := hL.le
  have HT : RowKit.Hid ((l.take i).length = i) := Lib.hid (by rw [List.length_take]; omega)
  have HTD : RowKit.Hid ((l.drop i).length = l.length - i) := Lib.hid (by rw [List.length_drop])
  have hi1 : (0 : Int) ≤ i := by omega
  have hi2 : (i : Int) ≤ l.length := by omega
  have hi3 : (i : Int) ≤ ca := by omega
  have HC := Lib.hid (hL.takeCap i hi)
  have hcase := slice_cases hL i hi
  have HL := Lib.hid hL
  clear hL hA
  obtain ⟨xv, tv, ts⟩ := x
  simp only at hX hb hP
  rcases hcase with ⟨rfl, rfl, rfl⟩ | ⟨b, o, rfl, rfl, hll⟩ | ⟨b, o, rfl, hlt⟩
  case' inl =>
    have HTD : RowKit.Hid ((([] : List BindD).drop 0).length = 0) := Lib.hid rfl
    have HD : RowKit.Hid (SliceAt encB 3 w A 0 (([] : List BindD).drop 0)) := Lib.hid (SliceAt.zero w A)
  case' inr.inl =>
    have HTD : RowKit.Hid ((l.drop ca).length = 0) := Lib.hid (by rw [List.length_drop]; omega)
    have HD : RowKit.Hid (BL w (some ⟨b, o, none⟩) 0 (l.drop ca)) := Lib.hid (by rw [List.drop_of_length_le (by omega)]; exact HL.out.empty)
  case' inr.inr =>
    have HD := Lib.hid (HL.out.dropCap i)
    have hne : ¬ ca = i := by omega
  all_goals
    go_enter Tryd.func42, Tryd.ntmps42
    go_wp2_with (go_at_call 55; refine hP.out.mono ?_; rintro e w1 ⟨rfl, hg⟩; have hX := hX.bel hg; have hb := hb.trans' hg; clear hg)
    have HBA := Lib.hid (bel_drew' (hb.trans' (bel_alloc w1 (.cells #[.string xv, .bool tv, .string ts] 39))))
    have HB2 := Lib.hid (bel_drew' (bel_alloc w1 (.cells #[.string xv, .bool tv, .string ts] 39)))
    have HNW : RowKit.Hid (∀ j u, (encB ⟨xv, tv, ts⟩)[j]? = some u → (w1.alloc (.cells #[.string xv, .bool tv, .string ts] 39)).drew.cell? ((⟨w1.heap.size, 0, none⟩ : Addr).add j) = some u) := Lib.hid (news_one w1 ⟨xv, tv, ts⟩)
    obtain ⟨x1, x2, x3⟩ := hX.cells
    simp only at x1 x2 x3
    go_region_held3 (fun w' => w'.cell? ⟨w.heap.size, 0, none⟩ = some (.string xv) ∧ w'.cell? ⟨w.heap.size, 1, none⟩ = some (.bool tv) ∧ w'.cell? ⟨w.heap.size, 2, none⟩ = some (.string ts)) (first | go_keep | trivial)
      (first | ((refine step_fresh (by rfl) (.tmp 13) (.tmp 15) 69 Tryd.underlying69 (by rfl) ⟨xv, tv, ts⟩ (by rfl) (by rfl) (HC.out.bel HBA.out) HT.out (by omega) HNW.out ?_; intro q1 c1 w2 out1 HX1 HO1; have hX2 := (hX.bel HB2.out).bel HO1.out.bel; have z1 : w2.cell? ⟨w.heap.size, 0, none⟩ = some (.string xv) := hX2.cells.1; have z2 : w2.cell? ⟨w.heap.size, 1, none⟩ = some (.bool tv) := hX2.cells.2.1; have z3 : w2.cell? ⟨w.heap.size, 2, none⟩ = some (.string ts) := hX2.cells.2.2; have hol := Nat.le_of_eq (show out1.length = _ + 1 from (by rw [HX1.out, List.length_append, HT.out, List.length_singleton])))) | ((refine step_pushes (by rfl) (.tmp 16) (.tmp 19) 69 Tryd.underlying69 (by rfl) (by rfl) (by rfl) HO1.out (HD.out.bel (HBA.out.trans' HO1.out.bel)) HTD.out (by omega) ?_; intro q2 c2 w3 out2 HX2 HO2 _ _; have hX3 := (hX.bel HB2.out).bel HO2.out.bel; have u1 : w3.cell? ⟨w.heap.size, 0, none⟩ = some (.string xv) := hX3.cells.1; have u2 : w3.cell? ⟨w.heap.size, 1, none⟩ = some (.bool tv) := hX3.cells.2.1; have u3 : w3.cell? ⟨w.heap.size, 2, none⟩ = some (.string ts) := hX3.cells.2.2)))
    all_goals go_wp2
    all_goals go_ret
    all_goals exact ⟨⟨_, _, _, Lib.hid (by rw [HX2.out, HX1.out, HW.out]), Lib.hid (HO2.out.base HBA.out), rfl⟩, HBA.out.trans' HO2.out.bel⟩
end Go.Proofs.YtkcnbdlhggoojaaDoor
namespace Go.Proofs.YtkcnbdlhggoojaaDoor
open Go.RowKit

theorem BindAt.lt {w : World} {b : Nat} {x : BindD} (h : BindAt w b x) : b < w.heap.size := (Array.getElem?_eq_some_iff.1 h).1
theorem BindAt.fr {F : List Nat} {w w' : World} {b : Nat} {x : BindD} (h : BindAt w b x) (hf : Fr F w w') (hn : b ∉ F) : BindAt w' b x := hf.at hn h
theorem BindAt.slice {w : World} {b : Nat} {x : BindD} (h : BindAt w b x) : BL w (some ⟨b, 0, none⟩) 1 [x] := by
  refine ⟨ItemsAt.of_load EB h.lt (fun j v hj => ?_), by simp, (fun e => by cases e), fun a e _ => ⟨_, _, (by injection e with e; exact e.symm)⟩⟩
  rw [flat_one] at hj
  rw [Nat.zero_add]
  exact cell_of_block h (by rw [← Array.getElem?_toList]; exact hj)
theorem own_not {q : Option Addr} {n c b : Nat} (h : ∀ g, (Value.slice q n c).ownBlock = some g → g < b ∨ b < g) : b ∉ (Value.slice q n c).ownBlock.toList := fun hm => by
  have := h b (by simpa using hm)
  omega
theorem joinB_cons (l : List BindD) (b : BindD) (m : List BindD) : joinB l (b :: m) = l.take (placeN l b.v) ++ b :: joinB (l.drop (placeN l b.v)) m := rfl
end Go.Proofs.YtkcnbdlhggoojaaDoor
