/-
  The reference's names of an atom's terms. Conditions: as each says.
-/
import Derived.Test.YtkcnbdlhggoojaaDoorTmJ
namespace Go.Proofs.YtkcnbdlhggoojaaDoor
open Go.RowKit

theorem step_mem (v : Bool) (out : List ByteArray) (t : TermD) (s : ByteArray) : s ∈ stepN v out t ↔ s ∈ out ∨ (t.v = v ∧ t.name = s) := by
  unfold stepN
  by_cases h : (t.v == v && !Lib.containsS out t.name) = true
  · rw [if_pos h]
    simp only [Bool.and_eq_true, beq_iff_eq] at h
    simp only [List.mem_append, List.mem_singleton]
    constructor
    · rintro (h1 | h1)
      · exact .inl h1
      · exact .inr ⟨h.1, h1.symm⟩
    · rintro (h1 | ⟨_, h1⟩)
      · exact .inl h1
      · exact .inr h1.symm
  · rw [if_neg h]
    constructor
    · exact .inl
    · rintro (h1 | ⟨h1, rfl⟩)
      · exact h1
      · simp only [h1, beq_self_eq_true, Bool.true_and, Bool.not_eq_true', Bool.not_eq_false] at h
        exact (Lib.containsS_iff _ _).1 h
theorem names_mem (v : Bool) (l : List TermD) (s : ByteArray) : s ∈ namesD v l ↔ ∃ t ∈ l, t.v = v ∧ t.name = s := by
  unfold namesD
  suffices h : ∀ (l : List TermD) (acc : List ByteArray), s ∈ l.foldl (stepN v) acc ↔ s ∈ acc ∨ ∃ t ∈ l, t.v = v ∧ t.name = s by simpa using h l []
  intro l
  induction l with
  | nil => intro acc; simp
  | cons t l ih =>
    intro acc
    rw [List.foldl_cons, ih, step_mem]
    simp only [List.mem_cons, exists_eq_or_imp]
    rw [or_assoc]
theorem contains_names (v : Bool) (l : List TermD) (s : ByteArray) : Lib.containsS (namesD v l) s = l.any (fun t => eqT t ⟨v, s⟩) := by
  rw [Bool.eq_iff_iff, Lib.containsS_iff, names_mem, List.any_eq_true]
  constructor
  · rintro ⟨t, h1, h2, h3⟩
    exact ⟨t, h1, (eqT_iff _ _).2 (TermD.ext' h2 h3)⟩
  · rintro ⟨t, h1, h2⟩
    have := (eqT_iff _ _).1 h2
    subst this
    exact ⟨_, h1, rfl, rfl⟩

set_option maxRecDepth 20000 in
set_option maxHeartbeats 4000000 in
theorem rnames_any (a : AtomD) (v : Bool) (w : World) (l : List TermD) (hl : l = (argsD a).take (cntI a.n)) :
    Calls Tryd.prog 34 #[.agg #[.string a.says, .string a.pred, .int .i64 a.n, .bool a.t0.v, .string a.t0.name, .bool a.t1.v, .string a.t1.name, .bool a.t2.v, .string a.t2.name, .bool a.t3.v, .string a.t3.name], .bool v] w fun e w' => (∃ A c, RowKit.Hid (ListAt w' A (namesD v l).length ((namesD v l).map Value.string)) ∧ e = .returned (.slice A (namesD v l).length c)) ∧ Bel w w' := by
  obtain ⟨i0, hi, hz0, hz1, hz2⟩ := info_str
  have hA := AtomAt.new w a
  have hb := bel_alloc w (.cells #[.string a.says, .string a.pred, .int .i64 a.n, .bool a.t0.v, .string a.t0.name, .bool a.t1.v, .string a.t1.name, .bool a.t2.v, .string a.t2.name, .bool a.t3.v, .string a.t3.name] 30)
  have hcl := cntI_le a.n
  have hll : l.length = cntI a.n := by rw [hl, List.length_take]; show min _ 4 = _; omega
  have hT := hA.terms.take (cntI a.n)
  rw [← hl] at hT
  obtain ⟨k0, hk0⟩ : ∃ k0, k0 = cntI a.n := ⟨_, rfl⟩
  have HK := Lib.hid hk0
  rw [← hk0] at hcl hll
  obtain ⟨w0, hw0⟩ : ∃ w0, w0 = w.alloc (.cells #[.string a.says, .string a.pred, .int .i64 a.n, .bool a.t0.v, .string a.t0.name, .bool a.t1.v, .string a.t1.name, .bool a.t2.v, .string a.t2.name, .bool a.t3.v, .string a.t3.name] 30) := ⟨_, rfl⟩
  have HB := Lib.hid hb
  have HA := Lib.hid hA
  have HT := Lib.hid hT
  rw [← hw0] at HB HA HT
  have HW := Lib.hid hw0
  clear hl hk0 hb hA hT hw0
  have hqt := eql_term
  go_enter Tryd.func34, Tryd.ntmps34
  go_wp2
  go_loopw [5, 6] (fun a5 i wr => ∃ (k n : Nat) (q : Option Addr) (c : Nat), k ≤ k0 ∧ i = .int .i64 k ∧ a5 = .slice q n c ∧ RowKit.Hid (n = (namesD v (l.take k)).length ∧ n ≤ k ∧ StrO w0 wr (.slice q n c) (namesD v (l.take k)))) (fun _ i _ => k0 - (intOf i).toNat)
  case atStart => exact ⟨0, 0, none, 0, Nat.zero_le _, rfl, rfl, Lib.hid ⟨rfl, Nat.le_refl _, by rw [← HW.out]; exact StrO.nil _ (Below.refl _ _)⟩⟩
  case round =>
    obtain ⟨k, n, q, c, hk, rfl, rfl, H⟩ := hrel
    have hA := HA.out.bel H.out.2.2.bel
    obtain ⟨c0, c1, c2, c3, c4, c5, c6, c7, c8, c9, c10⟩ := hA.cells
    by_cases hlt : k < k0
    · have hq : (0 : Int) ≤ k := by omega
      have hq2 : (k : Int) < k0 := by omega
      have hq4 : (k : Int) < 4 := by omega
      have HN := Lib.hid (names_succ v (List.getElem?_eq_getElem (by omega : k < l.length)))
      obtain ⟨t, ht⟩ : ∃ t, t = l[k] := ⟨_, rfl⟩
      rw [← ht] at HN
      have HTK := Lib.hid ht
      clear ht
      go_wp2_with (go_at_call 37; refine (rCount_any _ _ _ _ _ _ _ _ _ _ _ _).mono ?_; rw [← HK.out]; rintro e w1 ⟨rfl, hg⟩; have HS := Lib.hid (H.out.2.2.bel' hg); clear hg c0 c1 c2 c3 c4 c5 c6 c7 c8 c9 c10 hA)
      obtain ⟨tv, ts⟩ := t
      go_loopw [7, 8] (fun th kk wr2 => ∃ j : Nat, j ≤ k ∧ kk = .int .i64 j ∧ th = .bool ((l.take j).any (fun x => eqT x ⟨tv, ts⟩)) ∧ RowKit.Hid (Bel w1 wr2)) (fun _ kk _ => k - (intOf kk).toNat)
      case atStart => exact ⟨0, Nat.zero_le _, rfl, rfl, Lib.hid (Below.refl _ _)⟩
      case round =>
        obtain ⟨j, hj, rfl, rfl, HJ⟩ := hrel
        have hS := Lib.hid (HS.out.bel' HJ.out)
        obtain ⟨b, o, e, hbb, hc⟩ := ((HT.out.bel HS.out.bel).bel HJ.out).get (by omega)
        injection e with e
        injection e with e1 e2
        subst e1 e2
        obtain ⟨d3, d4⟩ := hc k (by omega)
        rw [← HTK.out] at d3 d4
        simp only at d3 d4
        by_cases hjk : j < k
        · obtain ⟨d1, d2⟩ := hc j (by omega)
          have HY : RowKit.Hid ((l.take (j + 1)).any (fun x => eqT x ⟨tv, ts⟩) = ((l.take j).any (fun x => eqT x ⟨tv, ts⟩) || eqT l[j] ⟨tv, ts⟩)) := Lib.hid (by
            rw [List.take_add_one, List.getElem?_eq_getElem (by omega : j < l.length), List.any_append]; simp)
          clear hc hbb
          generalize l[j] = x at d1 d2 HY
          obtain ⟨xv, xs⟩ := x
          simp only at d1 d2
          have hj0 : (0 : Int) ≤ j := by omega
          have hj1 : (j : Int) < k := by omega
          have hj4 : (j : Int) < 4 := by omega
          rcases Bool.eq_false_or_eq_true ((l.take j).any (fun x => eqT x ⟨tv, ts⟩)) with hth | hth
          · have HZ : RowKit.Hid ((l.take (j + 1)).any (fun x => eqT x ⟨tv, ts⟩) = true) := Lib.hid (by rw [HY.out, hth]; rfl)
            go_wp2
            go_quiet (fail)
            go_wp2
            go_roundw
            case rel => exact ⟨j + 1, by omega, by go_num, by rw [HZ.out], Lib.hid (HJ.out.trans' (by first | exact Below.refl _ _ | exact bel_drewN _ _))⟩
            case measure => simp [intOf]; omega
          · have HZ : RowKit.Hid ((l.take (j + 1)).any (fun x => eqT x ⟨tv, ts⟩) = eqT ⟨xv, xs⟩ ⟨tv, ts⟩) := Lib.hid (by rw [HY.out, hth]; rfl)
            go_wp2
            go_quiet (fail)
            go_wp2
            go_roundw
            case rel => exact ⟨j + 1, by omega, by go_num, by rw [HZ.out], Lib.hid (HJ.out.trans' (by first | exact Below.refl _ _ | exact bel_drewN _ _))⟩
            case measure => simp [intOf]; omega
        · obtain rfl : j = k := by omega
          have HN1 := Lib.hid H.out.1
          have hnk := H.out.2.1
          clear hc hbb
          have HX := H
          clear H
          rcases Decidable.em (tv = v) with rfl | hv
          · have hv : (tv == tv) = true := by simp
            have HC := Lib.hid (contains_names tv (l.take j) ts)
            rcases Bool.eq_false_or_eq_true ((l.take j).any (fun x => eqT x ⟨tv, ts⟩)) with hth | hth
            · have HE : RowKit.Hid (namesD tv (l.take (j + 1)) = namesD tv (l.take j)) := Lib.hid (by rw [HN.out]; unfold stepN; simp [HC.out, hth])
              go_wp2
              go_roundw
              case rel => exact ⟨j + 1, n, q, c, by omega, by go_num, rfl, Lib.hid (by rw [HE.out]; exact ⟨HN1.out, by omega, hS.out⟩)⟩
              case measure => simp [intOf]; omega
            · have HE : RowKit.Hid (namesD tv (l.take (j + 1)) = namesD tv (l.take j) ++ [ts]) := Lib.hid (by rw [HN.out]; unfold stepN; simp [HC.out, hth])
              go_wp2_with (at_builtin; refine wpList_append_mine _ rfl (.tmp 43) (.tmp 49) 45 rfl 9 i0 (.string ⟨#[]⟩) 1 16 Tryd.underlying45 hi hz0 hz1 hz2 rfl (by decide) (.slice q n c) n ((namesD tv (l.take j)).map Value.string) rfl (by have := hS.out.row; rw [← HN1.out] at this; exact this.alloc _) _ 1 1 [.string ts] rfl rfl new_one str_one (by unfold maxLen; omega) (by omega) ?_; intro v2 w2 ho2 hf2 hn22; obtain ⟨g2, cap2, rfl, _, _, _, _⟩ := row_value ho2 (by omega); have HP := Lib.hid (StrO.push (p := ts) hS.out (by rw [← HN1.out]; exact ho2) hf2 hn22); clear ho2 hf2 hn22)
              go_roundw
              case rel => exact ⟨j + 1, n + 1, _, _, by omega, by go_num, rfl, Lib.hid (by rw [HE.out]; exact ⟨by rw [List.length_append, ← HN1.out]; rfl, by omega, HP.out⟩)⟩
              case measure => simp [intOf]; omega
          · have hv2 : (tv == v) = false := by simpa using hv
            clear hv
            have HE : RowKit.Hid (namesD v (l.take (j + 1)) = namesD v (l.take j)) := Lib.hid (by rw [HN.out]; unfold stepN; simp [hv2])
            go_wp2
            go_roundw
            case rel => exact ⟨j + 1, n, q, c, by omega, by go_num, rfl, Lib.hid (by rw [HE.out]; exact ⟨HN1.out, by omega, hS.out⟩)⟩
            case measure => simp [intOf]; omega
    · obtain rfl : k = k0 := by omega
      have HF : RowKit.Hid (namesD v (l.take k) = namesD v l) := Lib.hid (by rw [← hll, List.take_length])
      have HR : RowKit.Hid (n = (namesD v l).length ∧ StrO w0 wr (.slice q n c) (namesD v l)) := Lib.hid (by rw [← HF.out]; exact ⟨H.out.1, H.out.2.2⟩)
      clear H
      go_wp2_with (go_at_call 37; refine (rCount_any _ _ _ _ _ _ _ _ _ _ _ _).mono ?_; rw [← HK.out]; rintro e w1 ⟨rfl, hg⟩; have HS := Lib.hid (HR.out.2.bel' hg); clear hg)
      go_ret
      exact ⟨⟨_, _, Lib.hid HS.out.list, ret_slice HR.out.1⟩, HB.out.trans' HS.out.bel⟩
end Go.Proofs.YtkcnbdlhggoojaaDoor
