/-
  Lists of bindings that a call makes: one more, several more. The bindings of a list under others. Conditions: as each says.
-/
import Derived.Test.YtdmdefdiglpgaaaSbI
namespace Go.Proofs.Ytdmdefdiglpgaaa
open Go.RowKit

theorem info_B : ∃ i, Try.prog.info? 32 = some i ∧ i.zero = some (.agg #[.string ⟨#[]⟩, .bool false, .string ⟨#[]⟩]) ∧ i.size = 3 ∧ i.bytes = 40 := by
  have h : (Try.prog.info? 32).map (fun i => (i.zero, i.size, i.bytes)) = some (some (.agg #[.string ⟨#[]⟩, .bool false, .string ⟨#[]⟩]), 3, 40) := by kernel_rfl
  cases hq : Try.prog.info? 32 with
  | none => rw [hq] at h; cases h
  | some i =>
    rw [hq] at h
    injection h with h
    injection h with h1 h2
    injection h2 with h2 h3
    exact ⟨i, rfl, h1, h2, h3⟩
abbrev OB (w W : World) (q : Option Addr) (c : Nat) (l : List BindD) : Prop := OwnL encB 3 32 w W (.slice q l.length c) l
theorem OB.nil (w : World) {W : World} (hb : Bel w W) : OB w W none 0 [] := OwnL.nil w hb
theorem news_one (w : World) (b : BindD) : ∀ j u, (encB b)[j]? = some u → (w.alloc (.cells #[.string b.v, .bool b.t.v, .string b.t.name] 32)).cell? ((⟨w.heap.size, 0, none⟩ : Addr).add j) = some u := fun j u h => by
  rw [addr_at, Nat.zero_add]
  exact cell_of_block (heap_alloc_new w _) (by rw [← Array.getElem?_toList]; exact h)
theorem wpList_push {ops : Array Oper} {rest : List Oper} {o : Oper} {a : Act} {w W : World} {Q : Exit → Act → World → Prop} (hgd : o.guard = none) (s x : Operand) (t : TypeId) (ht : Try.prog.underlying t = some (.slice 32))
    (ho : o.op = .call { callee := .builtin .append, args := #[s, x], argTypes := #[t, t] }) {q : Option Addr} {c : Nat} {out : List BindD} (b : BindD) (hs : a.eval s = .slice q out.length c) (hx : a.eval x = .slice (some ⟨W.heap.size, 0, none⟩) 1 1)
    (hO : OB w W q c out) (hl : out.length ≤ 2000000)
    (h : ∀ q' c' w' out', RowKit.Hid (out' = out ++ [b]) → RowKit.Hid (OB w w' q' c' out') → wpList Try.prog ops Q rest (a.put o.dst (.slice q' out'.length c')) w') :
    wpList Try.prog ops Q (o :: rest) a (W.alloc (.cells #[.string b.v, .bool b.t.v, .string b.t.name] 32)) := by
  obtain ⟨i0, hi, hz0, hz1, hz2⟩ := info_B
  have hO2 := hO.bel' (bel_alloc W (.cells #[.string b.v, .bool b.t.v, .string b.t.name] 32))
  refine wpList_append_mine _ hgd s x t ho 32 i0 _ 3 40 ht hi hz0 hz1 hz2 rfl (by decide) (.slice q out.length c) out.length (flatL encB out) hs hO2.row _ 1 1 (encB b) hx rfl (news_one W b) (EB.one b) (by unfold maxLen; omega) (by omega) ?_
  intro v2 w2 ho2 hf2 hn2
  have hP := OwnL.push (x := b) hO (bel_alloc W (.cells #[.string b.v, .bool b.t.v, .string b.t.name] 32)) ho2 hf2 hn2
  obtain ⟨q', c', rfl⟩ := hP.value
  exact h q' c' w2 (out ++ [b]) (Lib.hid rfl) (Lib.hid hP)

theorem OwnL.keep {α : Type} {enc : α → List Value} {k e : Nat} {w wr W W' : World} {v : Value} {l : List α} (h0 : OwnL enc k e w wr v l) (h : OwnL enc k e w W v l) (hg : Below wr.heap.size W W') : OwnL enc k e w W' v l := by
  refine ⟨?_, h.bel.trans (hg.mono h0.bel.size), h.new⟩
  obtain ⟨h1, h2⟩ := h.row
  refine ⟨h1, ?_⟩
  rcases h2 with h2 | ⟨g, cap, cur, rfl, hb, hh, r⟩
  · exact .inl h2
  · exact .inr ⟨g, cap, cur, rfl, hb, (hg.block g (row_lt h0.row rfl)).trans hh, r⟩
theorem store_bterm {w : World} {b : Nat} {x : BindD} (h : BindAt w b x) (u : TermD) : ∃ w3, (storeVar 29 ⟨b, 1, none⟩ (.agg #[.bool u.v, .string u.name])).run Try.prog w = .ok () w3 ∧ BindAt w3 b ⟨x.v, u⟩ ∧ Below b w w3 := by
  obtain ⟨i0, hq, _, hz1, _⟩ := info_parts2
  have hst := run_storeCells_at Try.prog b 1 32 [.bool u.v, .string u.name] 0 _ w h (by simp) (termCells_one [u])
  have e : (storeVar 29 ⟨b, 1, none⟩ (.agg #[.bool u.v, .string u.name])).run Try.prog w = (storeCells ⟨b, 1, none⟩ [.bool u.v, .string u.name] 0).run Try.prog w := by
    simp [storeVar, sizeOf, typeInfo, hq, Value.cells, hz1]
  refine ⟨_, e.trans hst, ?_, ⟨rfl, rfl, rfl, by simp [World.setRow], fun k hk => setRow_other w b k _ (by omega)⟩⟩
  unfold BindAt
  rw [setRow_heap w b _ _ 32 _ h]
  rfl
theorem wpList_store_bterm {ops : Array Oper} {rest : List Oper} {o : Oper} {a : Act} {w : World} {Q : Exit → Act → World → Prop} (hgd : o.guard = none) (x y : Operand) (ho : o.op = .store 29 x y) (g : Nat) (u : TermD)
    (hx : a.eval x = .pointer (some ⟨g, 1, none⟩)) (hy : a.eval y = .agg #[.bool u.v, .string u.name]) {a0 : BindD} (hg : BindAt w g a0)
    (h : ∀ w', BindAt w' g ⟨a0.v, u⟩ → Below g w w' → wpList Try.prog ops Q rest (a.put o.dst undef) w') : wpList Try.prog ops Q (o :: rest) a w := by
  obtain ⟨w3, hst, h1, h2⟩ := store_bterm hg u
  refine wpList_plain hgd fun _ hK => ?_
  unfold Oper.wp execOp
  simp only [ho, hx, hy, Instr.storeAt, Instr.sureAddr, Sem.run_bind, Sem.run_pure, Result.andThen_ok, hst]
  exact hK _ _ (h w3 h1 h2)

theorem und_succ {l m : List BindD} {k : Nat} {x : BindD} (h : l[k]? = some x) : undB (l.take (k + 1)) m = undB (l.take k) m ++ (if selfB ⟨x.v, subT m x.t⟩ then [] else [⟨x.v, subT m x.t⟩]) := by
  unfold undB
  rw [List.take_add_one, h, List.map_append, List.filter_append]
  congr 1
  simp only [Option.toList, List.map_cons, List.map_nil, List.filter_cons, List.filter_nil]
  cases selfB ⟨x.v, subT m x.t⟩ <;> rfl
theorem und_len (l m : List BindD) : (undB l m).length ≤ l.length := by
  unfold undB
  exact Nat.le_trans (List.length_filter_le _ _) (by rw [List.length_map]; exact Nat.le_refl _)

set_option maxRecDepth 20000 in
set_option maxHeartbeats 4000000 in
theorem under_any (A : Option Addr) (l : List BindD) (n ca : Nat) (hn : l.length = n) (B : Option Addr) (m : List BindD) (cb : Nat) (w : World) (hL : BL w A ca l) (hl : l.length ≤ 1000000) (hM : BL w B cb m) (hm : m.length ≤ 1000000) (hA : Asc m) :
    Calls Try.prog 44 #[.slice A n ca, .slice B m.length cb] w fun e w' => (∃ q c out, RowKit.Hid (out = undB l m) ∧ RowKit.Hid (OB w w' q c out) ∧ e = .returned (.slice q out.length c)) ∧ Bel w w' := by
  subst hn
  have HL := Lib.hid hL
  have HM := Lib.hid hM
  have HA := Lib.hid hA
  clear hL hM hA
  go_enter Try.func44, Try.ntmps44
  go_wp2
  go_loopw [5, 10] (fun a5 i wr => ∃ (k : Nat) (out : List BindD) (q : Option Addr) (c : Nat), k ≤ l.length ∧ i = .int .i64 k ∧ a5 = .slice q out.length c ∧ RowKit.Hid (out = undB (l.take k) m ∧ OB w wr q c out)) (fun _ i _ => l.length - (intOf i).toNat)
  case atStart => exact ⟨0, [], none, 0, Nat.zero_le _, rfl, rfl, Lib.hid ⟨rfl, OB.nil _ (Below.refl _ _)⟩⟩
  case round =>
    obtain ⟨k, out, q, c, hk, rfl, rfl, H⟩ := hrel
    have HO := Lib.hid H.out.2
    have HE := Lib.hid H.out.1
    clear H
    by_cases hlt : k < l.length
    · obtain ⟨b, o, rfl, hbb, hc⟩ := bl_get (HL.out.bel HO.out.bel) (by omega)
      obtain ⟨c1, c2, c3⟩ := hc k hlt
      have hq : (0 : Int) ≤ k := by omega
      have hq2 : (k : Int) < l.length := by omega
      have HS := Lib.hid (und_succ (m := m) (List.getElem?_eq_getElem hlt))
      have hol : out.length ≤ 2000000 := by
        have h1 := HE.out
        have h2 := und_len (l.take k) m
        rw [← h1, List.length_take] at h2
        omega
      clear hc hbb
      generalize l[k] = x at c1 c2 c3 HS
      have hX := BindAt.new wr x
      have HO1 := Lib.hid (HO.out.bel' (bel_alloc wr (.cells #[.string x.v, .bool x.t.v, .string x.t.name] 32)))
      obtain ⟨xv, tv, ts⟩ := x
      simp only at c1 c2 c3
      obtain ⟨x1, x2, x3⟩ := hX.cells
      simp only at x1 x2 x3 hX HO1
      have hT := Lib.hid (replaced_G B m m.length cb rfl tv ts _ (HM.out.bel HO1.out.bel) hm HA.out)
      go_wp2_with (first | (go_at_call 51; refine hT.out.mono ?_; rintro e w1 ⟨⟨u, HU, rfl⟩, hg⟩; have hX := hX.bel hg; have HO2 := Lib.hid (HO1.out.bel' hg); clear hg) | ((with_reducible refine wpList_store_bterm ?_ (.tmp 19) (.tmp 18) ?_ wr.heap.size u ?_ ?_ hX ?_); rfl; rfl; rfl; rfl; intro w3 hX3 hb3; have y1 : w3.cell? _ = some (.string xv) := hX3.cells.1; have y2 := hX3.cells.2.1; have y3 := hX3.cells.2.2))
      have HO3 := Lib.hid (HO.out.keep HO2.out hb3)
      have hF := self_any ⟨xv, u⟩ w3
      have HU2 : RowKit.Hid (u = subT m ⟨tv, ts⟩) := HU
      clear HO1 HO2 hX hX3 hb3 x1 x2 x3 hT HU
      cases hv : selfB ⟨xv, u⟩
      · have HN : RowKit.Hid (undB (l.take (k + 1)) m = out ++ [⟨xv, u⟩]) := Lib.hid (by rw [HS.out, ← HE.out, ← HU2.out, hv]; rfl)
        rw [hv] at hF
        have HF := Lib.hid hF
        clear hF hv
        refine HF.out.mono ?_
        rintro e w4 ⟨rfl, hg⟩
        have y1 := cell_bel y1 hg
        have y2 := cell_bel y2 hg
        have y3 := cell_bel y3 hg
        have HO4 := Lib.hid (HO3.out.bel' hg)
        clear hg HF
        go_wp2_with (at_builtin; refine wpList_push rfl (.tmp 23) (.tmp 25) 62 Try.underlying62 rfl ⟨xv, u⟩ rfl rfl HO4.out hol ?_; intro q' c' w5 out' HX HO5)
        go_roundw
        case rel => exact ⟨k + 1, out', q', c', by omega, by go_num, rfl, Lib.hid ⟨HX.out.trans HN.out.symm, HO5.out⟩⟩
        case measure => simp [intOf]; omega
      · have HN : RowKit.Hid (undB (l.take (k + 1)) m = out) := Lib.hid (by rw [HS.out, ← HE.out, ← HU2.out, hv]; simp)
        rw [hv] at hF
        have HF := Lib.hid hF
        clear hF hv
        refine HF.out.mono ?_
        rintro e w4 ⟨rfl, hg⟩
        have HO4 := Lib.hid (HO3.out.bel' hg)
        clear hg HF
        go_wp2
        go_roundw
        case rel => exact ⟨k + 1, out, q, c, by omega, by go_num, rfl, Lib.hid ⟨HN.out.symm, HO4.out⟩⟩
        case measure => simp [intOf]; omega
    · obtain rfl : k = l.length := by omega
      have HN : RowKit.Hid (out = undB l m) := Lib.hid (by have := HE.out; rwa [List.take_length] at this)
      go_wp2
      go_ret
      exact ⟨⟨q, c, out, HN, HO, rfl⟩, HO.out.bel⟩
end Go.Proofs.Ytdmdefdiglpgaaa
