/-
  Appending several bindings, and to a list that is not the call's own; a list with one more binding; those that others do not bind. Conditions: as each says.
-/
import Derived.Test.YtdmdefdiglpgaaaSbJ
import Derived.Deep.RegionHeld3
import Derived.Deep.RegionLawGrows
namespace Go.Proofs.Ytdmdefdiglpgaaa
open Go.RowKit

theorem OwnL.of_fresh {α : Type} {enc : α → List Value} {k e : Nat} {w w' : World} {v : Value} {n : Nat} {l : List α} (E : EncK enc k) (h : w'.ownsRow w.heap.size e k v n (flatL enc l)) (hg : w.grownBy w' none) : OwnL enc k e w w' v l := by
  have hn : n = l.length := by have := h.1; rw [flat_len E] at this; exact (Nat.eq_of_mul_eq_mul_right E.pos this).symm
  subst hn
  refine ⟨⟨h.1, ?_⟩, (Fr.of_grown (F := []) hg (by simp)).below (by simp) (Nat.le_refl _), fun g hgv => (h.lt g hgv).1⟩
  rcases h.2 with h2 | ⟨g, cap, cur, r, hb, rest⟩
  · exact .inl h2
  · exact .inr ⟨g, cap, cur, r, Nat.zero_le _, rest⟩
theorem SliceAt.loadAny {α : Type} {enc : α → List Value} {k : Nat} {w : World} {ad : Addr} {ca : Nat} {l : List α} (h : SliceAt enc k w (some ad) ca l) (E : EncK enc k) : ∀ j v, (flatL enc l)[j]? = some v → w.cell? (ad.add j) = some v := by
  cases l with
  | nil => intro j v hj; simp [flatL] at hj
  | cons x l =>
    obtain ⟨b0, o0, rfl⟩ := h.lt ad rfl (by have := h.le; simp at this; omega)
    exact h.items.load E
section
variable {ops : Array Oper} {o : Oper} {a : Act} {K : Act → World → Prop} {Q : Exit → Act → World → Prop} {E : Prop} {W : World}
theorem step_fresh (hg : o.guard = none) (s x : Operand) (t : TypeId) (ht : Try.prog.underlying t = some (.slice 32)) (ho : o.op = .call { callee := .builtin .append, args := #[s, x], argTypes := #[t, t] })
    {A : Option Addr} {i g : Nat} {pre : List BindD} (b : BindD) (hs : a.eval s = .slice A i i) (hx : a.eval x = .slice (some ⟨g, 0, none⟩) 1 1) (hS : SliceAt encB 3 W A i pre) (hl : pre.length = i) (hi : i ≤ 2000000)
    (hnews : ∀ j u, (encB b)[j]? = some u → W.cell? ((⟨g, 0, none⟩ : Addr).add j) = some u)
    (h : ∀ q' c' w' out', RowKit.Hid (out' = pre ++ [b]) → RowKit.Hid (OB W w' q' c' out') → K (a.put o.dst (.slice q' out'.length c')) w') :
    if Region.wanted o (yielded ops a.tmps) = true then Oper.wp Try.prog o a W K Q else E := by
  obtain ⟨i0, hi0, hz0, hz1, hz2⟩ := info_B
  refine step_append_grows hg s x t ho 32 i0 _ 3 40 ht hi0 hz0 hz1 hz2 rfl (by decide) A i i (flatL encB pre) hs (fun e => ⟨hS.nil e, hS.nil e⟩) (by rw [flat_len EB, hl]) (fun b' e j u hu => ?_) _ 1 1 (encB b) hx rfl hnews (EB.one b) (by omega) (by unfold maxLen; omega) (by omega) ?_
  · have hi0 : 0 < i := by
      cases pre with
      | nil => simp [flatL] at hu
      | cons y pre => simp at hl; omega
    obtain ⟨b0, o0, rfl⟩ := hS.lt b' e hi0
    subst e
    exact hS.items.load EB j u hu
  · intro v' w' hown hgrow
    have hP : OwnL encB 3 32 W w' v' (pre ++ [b]) := OwnL.of_fresh EB (by rw [flat_append, flat_one]; exact hown) hgrow
    obtain ⟨q', c', rfl⟩ := hP.value
    exact h q' c' w' (pre ++ [b]) (Lib.hid rfl) (Lib.hid hP)
theorem step_pushes (hg : o.guard = none) (s x : Operand) (t : TypeId) (ht : Try.prog.underlying t = some (.slice 32)) (ho : o.op = .call { callee := .builtin .append, args := #[s, x], argTypes := #[t, t] })
    {w : World} {q : Option Addr} {c : Nat} {out : List BindD} {A : Option Addr} {n cm : Nat} {m : List BindD} (hs : a.eval s = .slice q out.length c) (hx : a.eval x = .slice A n cm) (hO : OB w W q c out) (hM : SliceAt encB 3 W A cm m) (hn : m.length = n)
    (hl : out.length + n ≤ 2000000)
    (h : ∀ q' c' w' out', RowKit.Hid (out' = out ++ m) → RowKit.Hid (OB w w' q' c' out') → Fr (Value.slice q out.length c).ownBlock.toList W w' → (∀ g, (Value.slice q' out'.length c').ownBlock = some g → (Value.slice q out.length c).ownBlock = some g ∨ W.heap.size ≤ g) → K (a.put o.dst (.slice q' out'.length c')) w') :
    if Region.wanted o (yielded ops a.tmps) = true then Oper.wp Try.prog o a W K Q else E := by
  obtain ⟨i0, hi0, hz0, hz1, hz2⟩ := info_B
  subst hn
  cases A with
  | some ad =>
    refine step_append_mine W hg s x t ho 32 i0 _ 3 40 ht hi0 hz0 hz1 hz2 rfl (by decide) (.slice q out.length c) out.length (flatL encB out) hs hO.row _ m.length cm (flatL encB m) hx (flat_len EB m) (hM.loadAny EB) (flat_cells EB m) (by unfold maxLen; omega) (by omega) ?_
    intro v2 w2 ho2 hf2 hn2
    have hP := OwnL.grow hO (Below.refl _ _) ho2 hf2 hn2
    obtain ⟨q', c', rfl⟩ := hP.value
    exact h q' c' w2 (out ++ m) (Lib.hid rfl) (Lib.hid hP) hf2 hn2
  | none =>
    have hc := hM.nil rfl
    have hm0 : m = [] := List.eq_nil_of_length_eq_zero (by have := hM.le; omega)
    subst hm0 hc
    have hrun := run_append_owned_none (P := Try.prog) (w := W) 0 t o.type 32 i0 3 ht hi0 (.slice q out.length c) out.length (flatL encB out) (by rw [← hz1]; rw [hz1]; exact hO.row)
    have hw : Region.wanted o (yielded ops a.tmps) = true := by simp [Region.wanted, hg]
    rw [if_pos hw]
    unfold Oper.wp execOp
    simp only [ho, resolve, invoke, builtin, Sem.run_bind, Sem.run_pure, Result.andThen_ok, List.map_toArray, List.map_cons, List.map_nil, hs, hx, List.length_nil, hrun]
    have hO' : OB w W q c (out ++ []) := by rw [List.append_nil]; exact hO
    have := h q c W (out ++ []) (Lib.hid rfl) (Lib.hid hO') (Fr.refl _ _) (fun g hg => .inl (by rwa [List.append_nil] at hg))
    rwa [List.append_nil] at this
theorem wpList_pushes {rest : List Oper} (hg : o.guard = none) (s x : Operand) (t : TypeId) (ht : Try.prog.underlying t = some (.slice 32)) (ho : o.op = .call { callee := .builtin .append, args := #[s, x], argTypes := #[t, t] })
    {w : World} {q : Option Addr} {c : Nat} {out : List BindD} {A : Option Addr} {n cm : Nat} {m : List BindD} (hs : a.eval s = .slice q out.length c) (hx : a.eval x = .slice A n cm) (hO : OB w W q c out) (hM : SliceAt encB 3 W A cm m) (hn : m.length = n)
    (hl : out.length + n ≤ 2000000)
    (h : ∀ q' c' w' out', RowKit.Hid (out' = out ++ m) → RowKit.Hid (OB w w' q' c' out') → wpList Try.prog ops Q rest (a.put o.dst (.slice q' out'.length c')) w') : wpList Try.prog ops Q (o :: rest) a W :=
  wpList_plain hg fun K hK => by
    have hw : Region.wanted o (yielded ops a.tmps) = true := by simp [Region.wanted, hg]
    have := step_pushes (ops := ops) (o := o) (a := a) (K := K) (Q := Q) (E := False) hg s x t ht ho hs hx hO hM hn hl (fun q' c' w' out' h1 h2 _ _ => hK _ _ (h q' c' w' out' h1 h2))
    rwa [if_pos hw] at this
end
theorem unb_succ {l m : List BindD} {k : Nat} {x : BindD} (h : l[k]? = some x) : unbB (l.take (k + 1)) m = unbB (l.take k) m ++ (if (getB m x.v).isSome then [] else [x]) := by
  unfold unbB
  rw [List.take_add_one, h, List.filter_append]
  congr 1
  simp only [Option.toList, List.filter_cons, List.filter_nil]
  cases (getB m x.v).isSome <;> rfl
theorem unb_len (l m : List BindD) : (unbB l m).length ≤ l.length := List.length_filter_le _ _

set_option maxRecDepth 20000 in
set_option maxHeartbeats 4000000 in
theorem unbound_any (A : Option Addr) (l : List BindD) (ca : Nat) (B : Option Addr) (m : List BindD) (cb : Nat) (w : World) (hL : BL w A ca l) (hl : l.length ≤ 1000000) (hM : BL w B cb m) (hm : m.length ≤ 1000000) (hA : Asc m) :
    Calls Try.prog 48 #[.slice A l.length ca, .slice B m.length cb] w fun e w' => (∃ q c out, RowKit.Hid (out = unbB l m) ∧ RowKit.Hid (OB w w' q c out) ∧ e = .returned (.slice q out.length c)) ∧ Bel w w' := by
  have HL := Lib.hid hL
  have HM := Lib.hid hM
  have HA := Lib.hid hA
  clear hL hM hA
  go_enter Try.func48, Try.ntmps48
  go_wp2
  go_loopw [5, 10] (fun a5 i wr => ∃ (k : Nat) (out : List BindD) (q : Option Addr) (c : Nat), k ≤ l.length ∧ i = .int .i64 k ∧ a5 = .slice q out.length c ∧ RowKit.Hid (out = unbB (l.take k) m ∧ OB w wr q c out)) (fun _ i _ => l.length - (intOf i).toNat)
  case atStart => exact ⟨0, [], none, 0, Nat.zero_le _, rfl, rfl, Lib.hid ⟨rfl, OB.nil _ (Below.refl _ _)⟩⟩
  case round =>
    obtain ⟨k, out, q, c, hk, rfl, rfl, H⟩ := hrel
    have HO := Lib.hid H.out.2
    have HE := Lib.hid H.out.1
    clear H
    by_cases hlt : k < l.length
    · obtain ⟨b, o, rfl, hbb, hc⟩ := bl_get (HL.out.bel HO.out.bel) (by omega)
      obtain ⟨c1, c2, c3⟩ := hc k hlt
      have hq : (0 : Int) ≤ k := by omega
      have hq2 : (k : Int) < l.length := by omega
      have HS := Lib.hid (unb_succ (m := m) (List.getElem?_eq_getElem hlt))
      have hol : out.length ≤ 2000000 := by
        have h1 := HE.out
        have h2 := unb_len (l.take k) m
        rw [← h1, List.length_take] at h2
        omega
      clear hc hbb
      generalize l[k] = x at c1 c2 c3 HS
      have hX := BindAt.new wr x
      have HO1 := Lib.hid (HO.out.bel' (bel_alloc wr (.cells #[.string x.v, .bool x.t.v, .string x.t.name] 32)))
      obtain ⟨xv, u⟩ := x
      simp only at c1 c2 c3 hX HO1
      have hT := Lib.hid (binds_any B m m.length cb rfl xv _ (HM.out.bel HO1.out.bel) hm HA.out)
      cases hv : (getB m xv).isSome
      · have HN : RowKit.Hid (unbB (l.take (k + 1)) m = out ++ [⟨xv, u⟩]) := Lib.hid (by rw [HS.out, ← HE.out, hv]; rfl)
        rw [hv] at hT
        clear hv
        go_wp2_with (first | (go_at_call 42; refine hT.out.mono ?_; rintro e w4 ⟨rfl, hg⟩; have hX := hX.bel hg; have y1 := hX.cells.1; have y2 := hX.cells.2.1; have y3 := hX.cells.2.2; have HO4 := Lib.hid (HO1.out.bel' hg); clear hg) | (at_builtin; refine wpList_push rfl (.tmp 19) (.tmp 21) 62 Try.underlying62 rfl ⟨xv, u⟩ rfl rfl HO4.out hol ?_; intro q' c' w5 out' HX HO5))
        go_roundw
        case rel => exact ⟨k + 1, out', q', c', by omega, by go_num, rfl, Lib.hid ⟨HX.out.trans HN.out.symm, HO5.out⟩⟩
        case measure => simp [intOf]; omega
      · have HN : RowKit.Hid (unbB (l.take (k + 1)) m = out) := Lib.hid (by rw [HS.out, ← HE.out, hv]; simp)
        rw [hv] at hT
        clear hv
        go_wp2_with (go_at_call 42; refine hT.out.mono ?_; rintro e w4 ⟨rfl, hg⟩; have HO4 := Lib.hid (HO1.out.bel' hg); clear hg)
        go_roundw
        case rel => exact ⟨k + 1, out, q, c, by omega, by go_num, rfl, Lib.hid ⟨HN.out.symm, HO4.out⟩⟩
        case measure => simp [intOf]; omega
    · obtain rfl : k = l.length := by omega
      have HN : RowKit.Hid (out = unbB l m) := Lib.hid (by have := HE.out; rwa [List.take_length] at this)
      go_wp2
      go_ret
      exact ⟨⟨q, c, out, HN, HO, rfl⟩, HO.out.bel⟩
end Go.Proofs.Ytdmdefdiglpgaaa
