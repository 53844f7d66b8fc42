/-
  An atom's variables as a list that can be cut; a copy of a list of texts. Conditions: as each says.
-/
import Derived.Test.YtlbollmmomheoaaSbP1
import Derived.Test.YtlbollmmomheoaaSgC
import Derived.Test.YtlbollmmomheoaaTmMa
namespace Go.Proofs.Ytlbollmmomheoaa
open Go.RowKit

theorem StrO.sl {w W : World} {A : Option Addr} {n c : Nat} {l : List ByteArray} (hn : n = l.length) (h : StrO w W (.slice A n c) l) : SL W A c l := by
  subst hn
  exact OwnL.slice ES (⟨by rw [flatS]; exact h.row, h.bel, h.new⟩ : OwnL encS 1 9 w W (.slice A l.length c) l)
set_option maxRecDepth 20000 in
set_option maxHeartbeats 4000000 in
theorem rnames_own (a : AtomD) (v : Bool) (w : World) (l : List TermD) (hl : l = (argsD a).take (cntI a.n)) :
    Calls Try.prog 61 #[.agg #[.string a.says, .string a.pred, .int .i64 a.n, .bool a.t0.v, .string a.t0.name, .bool a.t1.v, .string a.t1.name, .bool a.t2.v, .string a.t2.name, .bool a.t3.v, .string a.t3.name], .bool v] w fun e w' => (∃ A c, RowKit.Hid (SL w' A c (namesD v l)) ∧ e = .returned (.slice A (namesD v l).length c)) ∧ Bel w w' := by
  obtain ⟨i0, hi, hz0, hz1, hz2⟩ := info_str
  have hA := AtomAt.new w a
  have hb := bel_alloc w (.cells #[.string a.says, .string a.pred, .int .i64 a.n, .bool a.t0.v, .string a.t0.name, .bool a.t1.v, .string a.t1.name, .bool a.t2.v, .string a.t2.name, .bool a.t3.v, .string a.t3.name] 43)
  have hcl := cntI_le a.n
  have hll : l.length = cntI a.n := by rw [hl, List.length_take]; show min _ 4 = _; omega
  have hT := hA.terms.take (cntI a.n)
  rw [← hl] at hT
  obtain ⟨k0, hk0⟩ : ∃ k0, k0 = cntI a.n := ⟨_, rfl⟩
  have HK := Lib.hid hk0
  rw [← hk0] at hcl hll
  obtain ⟨w0, hw0⟩ : ∃ w0, w0 = w.alloc (.cells #[.string a.says, .string a.pred, .int .i64 a.n, .bool a.t0.v, .string a.t0.name, .bool a.t1.v, .string a.t1.name, .bool a.t2.v, .string a.t2.name, .bool a.t3.v, .string a.t3.name] 43) := ⟨_, rfl⟩
  have HB := Lib.hid hb
  have HA := Lib.hid hA
  have HT := Lib.hid hT
  rw [← hw0] at HB HA HT
  have HW := Lib.hid hw0
  clear hl hk0 hb hA hT hw0
  have hqt := eql_term
  go_enter Try.func61, Try.ntmps61
  go_wp2
  go_loopw [5, 6] (fun a5 i wr => ∃ (k n : Nat) (q : Option Addr) (c : Nat), k ≤ k0 ∧ i = .int .i64 k ∧ a5 = .slice q n c ∧ RowKit.Hid (n = (namesD v (l.take k)).length ∧ n ≤ k ∧ StrO w0 wr (.slice q n c) (namesD v (l.take k)))) (fun _ i _ => k0 - (intOf i).toNat)
  case atStart => exact ⟨0, 0, none, 0, Nat.zero_le _, rfl, rfl, Lib.hid ⟨rfl, Nat.le_refl _, by rw [← HW.out]; exact StrO.nil _ (Below.refl _ _)⟩⟩
  case round =>
    obtain ⟨k, n, q, c, hk, rfl, rfl, H⟩ := hrel
    have hA := HA.out.bel H.out.2.2.bel
    obtain ⟨c0, c1, c2, c3, c4, c5, c6, c7, c8, c9, c10⟩ := hA.cells
    by_cases hlt : k < k0
    · have hq : (0 : Int) ≤ k := by omega
      have hq2 : (k : Int) < k0 := by omega
      have hq4 : (k : Int) < 4 := by omega
      have HN := Lib.hid (names_succ v (List.getElem?_eq_getElem (by omega : k < l.length)))
      obtain ⟨t, ht⟩ : ∃ t, t = l[k] := ⟨_, rfl⟩
      rw [← ht] at HN
      have HTK := Lib.hid ht
      clear ht
      go_wp2_with (go_at_call 64; refine (rCount_any _ _ _ _ _ _ _ _ _ _ _ _).mono ?_; rw [← HK.out]; rintro e w1 ⟨rfl, hg⟩; have HS := Lib.hid (H.out.2.2.bel' hg); clear hg c0 c1 c2 c3 c4 c5 c6 c7 c8 c9 c10 hA)
      obtain ⟨tv, ts⟩ := t
      go_loopw [7, 8] (fun th kk wr2 => ∃ j : Nat, j ≤ k ∧ kk = .int .i64 j ∧ th = .bool ((l.take j).any (fun x => eqT x ⟨tv, ts⟩)) ∧ RowKit.Hid (Bel w1 wr2)) (fun _ kk _ => k - (intOf kk).toNat)
      case atStart => exact ⟨0, Nat.zero_le _, rfl, rfl, Lib.hid (Below.refl _ _)⟩
      case round =>
        obtain ⟨j, hj, rfl, rfl, HJ⟩ := hrel
        have hS := Lib.hid (HS.out.bel' HJ.out)
        obtain ⟨b, o, e, hbb, hc⟩ := ((HT.out.bel HS.out.bel).bel HJ.out).get (by omega)
        injection e with e
        injection e with e1 e2
        subst e1 e2
        obtain ⟨d3, d4⟩ := hc k (by omega)
        rw [← HTK.out] at d3 d4
        simp only at d3 d4
        by_cases hjk : j < k
        · obtain ⟨d1, d2⟩ := hc j (by omega)
          have HY : RowKit.Hid ((l.take (j + 1)).any (fun x => eqT x ⟨tv, ts⟩) = ((l.take j).any (fun x => eqT x ⟨tv, ts⟩) || eqT l[j] ⟨tv, ts⟩)) := Lib.hid (by
            rw [List.take_add_one, List.getElem?_eq_getElem (by omega : j < l.length), List.any_append]; simp)
          clear hc hbb
          generalize l[j] = x at d1 d2 HY
          obtain ⟨xv, xs⟩ := x
          simp only at d1 d2
          have hj0 : (0 : Int) ≤ j := by omega
          have hj1 : (j : Int) < k := by omega
          have hj4 : (j : Int) < 4 := by omega
          rcases Bool.eq_false_or_eq_true ((l.take j).any (fun x => eqT x ⟨tv, ts⟩)) with hth | hth
          · have HZ : RowKit.Hid ((l.take (j + 1)).any (fun x => eqT x ⟨tv, ts⟩) = true) := Lib.hid (by rw [HY.out, hth]; rfl)
            go_wp2
            go_quiet (fail)
            go_wp2
            go_roundw
            case rel => exact ⟨j + 1, by omega, by go_num, by rw [HZ.out], Lib.hid (HJ.out.trans' (by first | exact Below.refl _ _ | exact bel_drewN _ _))⟩
            case measure => simp [intOf]; omega
          · have HZ : RowKit.Hid ((l.take (j + 1)).any (fun x => eqT x ⟨tv, ts⟩) = eqT ⟨xv, xs⟩ ⟨tv, ts⟩) := Lib.hid (by rw [HY.out, hth]; rfl)
            go_wp2
            go_quiet (fail)
            go_wp2
            go_roundw
            case rel => exact ⟨j + 1, by omega, by go_num, by rw [HZ.out], Lib.hid (HJ.out.trans' (by first | exact Below.refl _ _ | exact bel_drewN _ _))⟩
            case measure => simp [intOf]; omega
        · obtain rfl : j = k := by omega
          have HN1 := Lib.hid H.out.1
          have hnk := H.out.2.1
          clear hc hbb
          have HX := H
          clear H
          rcases Decidable.em (tv = v) with rfl | hv
          · have hv : (tv == tv) = true := by simp
            have HC := Lib.hid (contains_names tv (l.take j) ts)
            rcases Bool.eq_false_or_eq_true ((l.take j).any (fun x => eqT x ⟨tv, ts⟩)) with hth | hth
            · have HE : RowKit.Hid (namesD tv (l.take (j + 1)) = namesD tv (l.take j)) := Lib.hid (by rw [HN.out]; unfold stepN; simp [HC.out, hth])
              go_wp2
              go_roundw
              case rel => exact ⟨j + 1, n, q, c, by omega, by go_num, rfl, Lib.hid (by rw [HE.out]; exact ⟨HN1.out, by omega, hS.out⟩)⟩
              case measure => simp [intOf]; omega
            · have HE : RowKit.Hid (namesD tv (l.take (j + 1)) = namesD tv (l.take j) ++ [ts]) := Lib.hid (by rw [HN.out]; unfold stepN; simp [HC.out, hth])
              go_wp2_with (at_builtin; refine wpList_append_mine _ rfl (.tmp 43) (.tmp 49) 39 rfl 9 i0 (.string ⟨#[]⟩) 1 16 Try.underlying39 hi hz0 hz1 hz2 rfl (by decide) (.slice q n c) n ((namesD tv (l.take j)).map Value.string) rfl (by have := hS.out.row; rw [← HN1.out] at this; exact this.alloc _) _ 1 1 [.string ts] rfl rfl new_one str_one (by unfold maxLen; omega) (by omega) ?_; intro v2 w2 ho2 hf2 hn22; obtain ⟨g2, cap2, rfl, _, _, _, _⟩ := row_value ho2 (by omega); have HP := Lib.hid (StrO.push (p := ts) hS.out (by rw [← HN1.out]; exact ho2) hf2 hn22); clear ho2 hf2 hn22)
              go_roundw
              case rel => exact ⟨j + 1, n + 1, _, _, by omega, by go_num, rfl, Lib.hid (by rw [HE.out]; exact ⟨by rw [List.length_append, ← HN1.out]; rfl, by omega, HP.out⟩)⟩
              case measure => simp [intOf]; omega
          · have hv2 : (tv == v) = false := by simpa using hv
            clear hv
            have HE : RowKit.Hid (namesD v (l.take (j + 1)) = namesD v (l.take j)) := Lib.hid (by rw [HN.out]; unfold stepN; simp [hv2])
            go_wp2
            go_roundw
            case rel => exact ⟨j + 1, n, q, c, by omega, by go_num, rfl, Lib.hid (by rw [HE.out]; exact ⟨HN1.out, by omega, hS.out⟩)⟩
            case measure => simp [intOf]; omega
    · obtain rfl : k = k0 := by omega
      have HF : RowKit.Hid (namesD v (l.take k) = namesD v l) := Lib.hid (by rw [← hll, List.take_length])
      have HR : RowKit.Hid (n = (namesD v l).length ∧ StrO w0 wr (.slice q n c) (namesD v l)) := Lib.hid (by rw [← HF.out]; exact ⟨H.out.1, H.out.2.2⟩)
      clear H
      go_wp2_with (go_at_call 64; refine (rCount_any _ _ _ _ _ _ _ _ _ _ _ _).mono ?_; rw [← HK.out]; rintro e w1 ⟨rfl, hg⟩; have HS := Lib.hid (HR.out.2.bel' hg); clear hg)
      go_ret
      exact ⟨⟨_, _, Lib.hid (StrO.sl HR.out.1 HS.out), ret_slice HR.out.1⟩, HB.out.trans' HS.out.bel⟩

set_option maxHeartbeats 400000 in
theorem rvars_own (a : AtomD) (w : World) :
    Calls Try.prog 24 #[.agg #[.string a.says, .string a.pred, .int .i64 a.n, .bool a.t0.v, .string a.t0.name, .bool a.t1.v, .string a.t1.name, .bool a.t2.v, .string a.t2.name, .bool a.t3.v, .string a.t3.name]] w fun e w' => (∃ A c, RowKit.Hid (SL w' A c (varsA a)) ∧ e = .returned (.slice A (varsA a).length c)) ∧ Bel w w' := by
  have hA := AtomAt.new w a
  have hb := bel_alloc w (.cells #[.string a.says, .string a.pred, .int .i64 a.n, .bool a.t0.v, .string a.t0.name, .bool a.t1.v, .string a.t1.name, .bool a.t2.v, .string a.t2.name, .bool a.t3.v, .string a.t3.name] 43)
  go_enter Try.func24, Try.ntmps24
  go_wp2_with (go_at_call 61; refine (rnames_own a true _ _ rfl).mono ?_; rintro e w1 ⟨⟨A, c, hL, rfl⟩, hg⟩; have hb := hb.trans' hg)
  go_ret
  exact ⟨⟨_, _, hL, rfl⟩, hb⟩
section
variable {ops : Array Oper} {o : Oper} {a : Act} {K : Act → World → Prop} {Q : Exit → Act → World → Prop} {E : Prop} {W : World}
theorem step_pushesS (hg : o.guard = none) (s x : Operand) (t : TypeId) (ht : Try.prog.underlying t = some (.slice 9)) (ho : o.op = .call { callee := .builtin .append, args := #[s, x], argTypes := #[t, t] })
    {w : World} {q : Option Addr} {c : Nat} {out : List ByteArray} {A : Option Addr} {n cm : Nat} {m : List ByteArray} (hs : a.eval s = .slice q out.length c) (hx : a.eval x = .slice A n cm) (hO : OS w W q c out) (hM : SliceAt encS 1 W A cm m) (hn : m.length = n)
    (hl : out.length + n ≤ 2000000)
    (h : ∀ q' c' w' out', RowKit.Hid (out' = out ++ m) → RowKit.Hid (OS w w' q' c' out') → Fr (Value.slice q out.length c).ownBlock.toList W w' → (∀ g, (Value.slice q' out'.length c').ownBlock = some g → (Value.slice q out.length c).ownBlock = some g ∨ W.heap.size ≤ g) → K (a.put o.dst (.slice q' out'.length c')) w') :
    if Region.wanted o (yielded ops a.tmps) = true then Oper.wp Try.prog o a W K Q else E := by
  obtain ⟨i0, hi0, hz0, hz1, hz2⟩ := info_str
  subst hn
  cases A with
  | some ad =>
    refine step_append_mine W hg s x t ho 9 i0 _ 1 16 ht hi0 hz0 hz1 hz2 rfl (by decide) (.slice q out.length c) out.length (flatL encS out) hs hO.row _ m.length cm (flatL encS m) hx (flat_len ES m) (hM.loadAny ES) (flat_cells ES m) (by unfold maxLen; omega) (by omega) ?_
    intro v2 w2 ho2 hf2 hn2
    have hP := OwnL.grow hO (Below.refl _ _) ho2 hf2 hn2
    obtain ⟨q', c', rfl⟩ := hP.value
    exact h q' c' w2 (out ++ m) (Lib.hid rfl) (Lib.hid hP) hf2 hn2
  | none =>
    have hc := hM.nil rfl
    have hm0 : m = [] := List.eq_nil_of_length_eq_zero (by have := hM.le; omega)
    subst hm0 hc
    have hrun := run_append_owned_none (P := Try.prog) (w := W) 0 t o.type 9 i0 1 ht hi0 (.slice q out.length c) out.length (flatL encS out) (by rw [← hz1]; rw [hz1]; exact hO.row)
    have hw : Region.wanted o (yielded ops a.tmps) = true := by simp [Region.wanted, hg]
    rw [if_pos hw]
    unfold Oper.wp execOp
    simp only [ho, resolve, invoke, builtin, Sem.run_bind, Sem.run_pure, Result.andThen_ok, List.map_toArray, List.map_cons, List.map_nil, hs, hx, List.length_nil, hrun]
    have hO' : OS w W q c (out ++ []) := by rw [List.append_nil]; exact hO
    have := h q c W (out ++ []) (Lib.hid rfl) (Lib.hid hO') (Fr.refl _ _) (fun g hg => .inl (by rwa [List.append_nil] at hg))
    rwa [List.append_nil] at this
theorem wpList_pushesS {rest : List Oper} (hg : o.guard = none) (s x : Operand) (t : TypeId) (ht : Try.prog.underlying t = some (.slice 9)) (ho : o.op = .call { callee := .builtin .append, args := #[s, x], argTypes := #[t, t] })
    {w : World} {q : Option Addr} {c : Nat} {out : List ByteArray} {A : Option Addr} {n cm : Nat} {m : List ByteArray} (hs : a.eval s = .slice q out.length c) (hx : a.eval x = .slice A n cm) (hO : OS w W q c out) (hM : SliceAt encS 1 W A cm m) (hn : m.length = n)
    (hl : out.length + n ≤ 2000000)
    (h : ∀ q' c' w' out', RowKit.Hid (out' = out ++ m) → RowKit.Hid (OS w w' q' c' out') → wpList Try.prog ops Q rest (a.put o.dst (.slice q' out'.length c')) w') : wpList Try.prog ops Q (o :: rest) a W :=
  wpList_plain hg fun K hK => by
    have hw : Region.wanted o (yielded ops a.tmps) = true := by simp [Region.wanted, hg]
    have := step_pushesS (ops := ops) (o := o) (a := a) (K := K) (Q := Q) (E := False) hg s x t ht ho hs hx hO hM hn hl (fun q' c' w' out' h1 h2 _ _ => hK _ _ (h q' c' w' out' h1 h2))
    rwa [if_pos hw] at this
end
set_option maxHeartbeats 1000000 in
theorem ownS_any (A : Option Addr) (l : List ByteArray) (n ca : Nat) (hn : l.length = n) (w : World) (hL : SL w A ca l) (hl : l.length ≤ 100000) :
    Calls Try.prog 29 #[.slice A n ca] w fun e w' => (∃ q c, RowKit.Hid (OS w w' q c l) ∧ e = .returned (.slice q l.length c)) ∧ Bel w w' := by
  subst hn
  have HL := Lib.hid hL
  clear hL
  have hb := bel_alloc w (.cells #[] 9)
  have ho0 : (w.alloc (.cells #[] 9)).ownsRow 0 9 1 (.slice (some ⟨w.heap.size, 0, none⟩) 0 0) 0 [] := World.ownsRow_lit (base := 0) (e := 9) (size := 1) w #[] 0 (Nat.zero_le _) (by unfold maxLen; omega) (by simp)
  have hO : OS w (w.alloc (.cells #[] 9)) (some ⟨w.heap.size, 0, none⟩) 0 [] := ⟨ho0, hb, fun g hg => by simp [Value.ownBlock] at hg; omega⟩
  have HO := Lib.hid hO
  have hH := HL.out.bel hb
  clear ho0 hO
  go_enter Try.func29, Try.ntmps29
  go_wp2_with (at_builtin; refine wpList_pushesS rfl (.tmp 3) (.tmp 4) 39 Try.underlying39 rfl rfl rfl HO.out (HL.out.bel hb) rfl (by simp; omega) ?_; intro q' c' w5 out' HX' HO'; obtain rfl : out' = l := HX'.out)
  go_ret
  exact ⟨⟨q', c', HO', rfl⟩, HO'.out.bel⟩

end Go.Proofs.Ytlbollmmomheoaa
