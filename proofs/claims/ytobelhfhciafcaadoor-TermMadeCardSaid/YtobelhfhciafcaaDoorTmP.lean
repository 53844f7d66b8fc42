/-
  The walk of the law TermMade. Conditions: what came in lies as its parameters' types say; the library's variable holds some int.
-/
import Derived.Test.YtobelhfhciafcaaDoorTmO
namespace Go.Proofs.YtobelhfhciafcaaDoor
open Go.RowKit

theorem own_len (A : Option Addr) (l : List TermD) (k ca : Nat) (hk : l.length = k) (w : World) (h : TermsAt w A l) (hl : l.length ≤ 1000000) (hA : A = none → l = [] ∧ ca = 0) :
    Calls Tryd.prog 21 #[.slice A k ca] w fun e w' => (∃ A' c', e = .returned (.slice A' k c') ∧ TermsAt w' A' l) ∧ Bel w w' := by
  subst hk; exact own_any A l ca w h hl hA
theorem made_len (s p : ByteArray) (A : Option Addr) (l : List TermD) (k ca : Nat) (hk : l.length = k) (w : World) (hs : s.size ≤ 9223372036854775807) (hp : p.size ≤ 9223372036854775807) (h : TermsAt w A l) (hl : l.length ≤ 1000000) (hsz : ∀ t ∈ l, t.name.size ≤ 9223372036854775807) (hm : MaxAt w) :
    Calls Tryd.prog 10 #[.string s, .string p, .slice A k ca] w fun e w' => (∃ q n, RowKit.Hid ((q, n) = madeD s p l) ∧ e = .returned (.tuple #[.agg #[.string q.says, .string q.pred, .int .i64 q.n, .bool q.t0.v, .string q.t0.name, .bool q.t1.v, .string q.t1.name, .bool q.t2.v, .string q.t2.name, .bool q.t3.v, .string q.t3.name], .int .i64 n])) ∧ Bel w w' := by
  subst hk; exact made_any s p A l ca w hs hp h hl hsz hm
set_option maxRecDepth 20000 in
set_option maxHeartbeats 8000000 in
theorem lawTermMade (s p : ByteArray) (A : Option Addr) (l : List TermD) (ca : Nat) (w : World) (hs : s.size ≤ 9223372036854775807) (hp : p.size ≤ 9223372036854775807)
    (hT : TermsAt w A l) (hA : A = none → l = [] ∧ ca = 0) (hll : l.length ≤ 9223372036854775807) (hcap : l.length ≤ ca) (hsz : ∀ x ∈ l, x.name.size ≤ 9223372036854775807) (hm : MaxAt w) :
    Calls Tryd.prog 6 #[.string s, .string p, .slice A l.length ca] w fun e w' => e = .returned (.bool true) ∧ Bel w w' := by
  have hb : Bel w w := Below.refl _ _
  by_cases g1 : s.size ≤ 300
  case neg =>
    have r1 : ¬ (s.size : Int) ≤ 300 := by omega
    clear hT hA hsz
    go_enter Tryd.func6, Tryd.ntmps6
    go_wp2_with (go_at_call 8; refine (tlives_any _ (hm.bel hb)).mono ?_; rintro e w1 ⟨rfl, hg⟩; have hb := hb.trans' hg; clear hg)
    all_goals go_ret
    all_goals exact ⟨rfl, hb⟩
  by_cases g2 : p.size ≤ 300
  case neg =>
    have r1 : (s.size : Int) ≤ 300 := by omega
    have r2 : ¬ (p.size : Int) ≤ 300 := by omega
    clear hT hA hsz
    go_enter Tryd.func6, Tryd.ntmps6
    go_wp2_with (go_at_call 8; refine (tlives_any _ (hm.bel hb)).mono ?_; rintro e w1 ⟨rfl, hg⟩; have hb := hb.trans' hg; clear hg)
    all_goals go_ret
    all_goals exact ⟨rfl, hb⟩
  have r1 : (s.size : Int) ≤ 300 := by omega
  have r2 : (p.size : Int) ≤ 300 := by omega
  by_cases g3 : l.length ≤ 4
  case neg =>
    have r3 : ¬ (l.length : Int) ≤ 4 := by omega
    clear hT hA hsz
    go_enter Tryd.func6, Tryd.ntmps6
    go_wp2_with (go_at_call 8; refine (tlives_any _ (hm.bel hb)).mono ?_; rintro e w1 ⟨rfl, hg⟩; have hb := hb.trans' hg; clear hg)
    all_goals go_ret
    all_goals exact ⟨rfl, hb⟩
  have r3 : (l.length : Int) ≤ 4 := by omega
  have HTT := Lib.hid hT
  have HAA := Lib.hid hA
  have HSZ := Lib.hid hsz
  clear hT hA hsz
  rcases Decidable.em (checkD (storedD s p l) = 0) with hc | hc
  case inr =>
    have HM := Lib.hid (made_bad (by omega) hc)
    have hcc : (checkD (storedD s p l) != 0) = true := by simp [hc]
    clear hc
    obtain ⟨cn, hcn⟩ : ∃ cn, cn = checkD (storedD s p l) := ⟨_, rfl⟩
    rw [← hcn] at HM hcc
    clear hcn
    go_enter Tryd.func6, Tryd.ntmps6
    go_wp2_with (first | (go_at_call 8; refine (tlives_any _ (hm.bel hb)).mono ?_; rintro e w1 ⟨rfl, hg⟩; have hb := hb.trans' hg; clear hg) | (go_at_call 21; refine (own_any A l ca _ (HTT.out.bel hb) (by omega) HAA.out).mono ?_; rintro e w1 ⟨⟨A1, ca1, rfl, hT1⟩, hg⟩; have HT1 := Lib.hid hT1; have hb := hb.trans' hg; clear hg hT1) | (go_at_call 10; refine (made_any s p _ l _ _ (by omega) (by omega) HT1.out (by omega) HSZ.out (hm.bel hb)).mono ?_; rintro e w2 ⟨⟨z1, m1, HZ1, rfl⟩, hg⟩; obtain ⟨hz1, hz2⟩ := Prod.mk.inj (HZ1.out.trans HM.out); subst hz2; have hq := eql_atom z1 zeroA; have hqe : eqA z1 zeroA = true := (eqA_iff _ _).2 hz1; clear hz1; have hX := AtomAt.new w2 z1; obtain ⟨c0, c1, c2, c3, c4, c5, c6, c7, c8, c9, c10⟩ := hX.cells; simp only [zeroA, zeroT] at hq hqe; have hb := (hb.trans' hg).trans' (bel_alloc w2 (.cells #[.string z1.says, .string z1.pred, .int .i64 z1.n, .bool z1.t0.v, .string z1.t0.name, .bool z1.t1.v, .string z1.t1.name, .bool z1.t2.v, .string z1.t2.name, .bool z1.t3.v, .string z1.t3.name] 27)); clear hg))
    go_ret
    exact ⟨rfl, hb⟩
  have HM := Lib.hid (made_ok (by omega) hc)
  have HTB := Lib.hid (stored_zero g3 hc).2
  have HZT := Lib.hid (fun k => zero_take g3 hc k)
  have HAG := Lib.hid (fun k hk => args_stored s p l g3 k hk)
  have HC := Lib.hid hc
  have hOK := storedD_ok hs hp g3 HSZ.out
  clear hc
  go_enter Tryd.func6, Tryd.ntmps6
  go_wp2_with (first | (go_at_call 8; refine (tlives_any _ (hm.bel hb)).mono ?_; rintro e w1 ⟨rfl, hg⟩; have hb := hb.trans' hg; clear hg) | (go_at_call 21; refine (own_any A l ca _ (HTT.out.bel hb) (by omega) HAA.out).mono ?_; rintro e w1 ⟨⟨A1, ca1, rfl, hT1⟩, hg⟩; have HT1 := Lib.hid hT1; have hb := hb.trans' hg; clear hg hT1) | (go_at_call 10; refine (made_any s p _ l _ _ (by omega) (by omega) HT1.out (by omega) HSZ.out (hm.bel hb)).mono ?_; rintro e w2 ⟨⟨z1, m1, HZ1, rfl⟩, hg⟩; obtain ⟨hz1, hz2⟩ := Prod.mk.inj (HZ1.out.trans HM.out); subst hz2; have HX1 := Lib.hid hz1; have HK1 := Lib.hid (Eq.mpr (congrArg AtomOk hz1) hOK); have hw2 := (hb.trans' hg).size; have HCC : checkD z1 = 0 := (congrArg checkD hz1).trans HC.out; have hX := AtomAt.new w2 z1; obtain ⟨c0, c1, c2, c3, c4, c5, c6, c7, c8, c9, c10⟩ := hX.cells; have e1 : (z1.says.toList != s.toList) = false := (by simp [hz1, storedD]); have e2 : (z1.pred.toList != p.toList) = false := (by simp [hz1, storedD]); have e3 : (z1.n != (l.length : Int)) = false := (by simp [hz1, storedD]); have e4 : (z1.says.toList == s.toList) = true := (by simp [hz1, storedD]); have e5 : (z1.pred.toList == p.toList) = true := (by simp [hz1, storedD]); clear hz1; have hb := (hb.trans' hg).trans' (bel_alloc w2 (.cells #[.string z1.says, .string z1.pred, .int .i64 z1.n, .bool z1.t0.v, .string z1.t0.name, .bool z1.t1.v, .string z1.t1.name, .bool z1.t2.v, .string z1.t2.name, .bool z1.t3.v, .string z1.t3.name] 27)); clear hg) | (go_at_call 13; refine (check_any z1 _ HK1.out (hm.bel hb)).mono ?_; rintro e w3 ⟨rfl, hg⟩; have hX := hX.bel hg; obtain ⟨c0, c1, c2, c3, c4, c5, c6, c7, c8, c9, c10⟩ := hX.cells; have hb := hb.trans' hg; clear hg))
  go_loopw [9] (fun i wr => ∃ k : Nat, k ≤ l.length ∧ i = .int .i64 k ∧ RowKit.Hid (AtomAt wr w2.heap.size z1 ∧ Bel w3 wr)) (fun i _ => l.length - (intOf i).toNat)
  case atStart => exact ⟨0, Nat.zero_le _, rfl, Lib.hid ⟨hX, Below.refl _ _⟩⟩
  case round =>
    obtain ⟨k, hk, rfl, H⟩ := hrel
    clear c0 c1 c2 c3 c4 c5 c6 c7 c8 c9 c10 hX
    have hbw := hb.trans' H.out.2
    by_cases hlt : k < l.length
    · obtain ⟨b, o, rfl, _, hcs⟩ := (HTT.out.bel hbw).get (by omega)
      obtain ⟨c1, c2⟩ := hcs k hlt
      obtain ⟨b', o', e, _, d1, d2⟩ := H.out.1.terms k (by show k < 4; omega)
      injection e with e
      injection e with e1 e2
      subst e1 e2
      have he : (argsD z1)[k]'(by show k < 4; omega) = l[k] := by
        have h := HAG.out k hlt
        rw [← HX1.out, List.getElem?_eq_getElem (by show k < 4; omega)] at h
        exact Option.some.inj h
      rw [he] at d1 d2
      have htb : termB l[k] = true := List.all_eq_true.1 HTB.out _ (List.getElem_mem hlt)
      have htz := HSZ.out _ (List.getElem_mem hlt)
      clear hcs he
      generalize l[k] = t at c1 c2 d1 d2 htb htz
      obtain ⟨tv, ts⟩ := t
      simp only at c1 c2 d1 d2 htz
      have hq0 : (0 : Int) ≤ k := by omega
      have hq1 : (k : Int) < l.length := by omega
      have hq4 : (k : Int) < 4 := by omega
      have hq := neq_term
      have hqe : eqT ⟨tv, ts⟩ ⟨tv, ts⟩ = true := (eqT_iff _ _).2 rfl
      have hAw := H.out.1.drew
      have hbr := bel_drew' H.out.2
      have hbw := bel_drew' hbw
      have c1 := cell_later (bel_drew' (Below.refl _ _)) c1
      have c2 := cell_later (bel_drew' (Below.refl _ _)) c2
      have d1 := cell_later (bel_drew' (Below.refl _ _)) d1
      have d2 := cell_later (bel_drew' (Below.refl _ _)) d2
      go_wp2
      go_region_held (fun w' => w'.cell? ⟨w2.heap.size, 3 + k * 2, none⟩ = some (.bool tv) ∧ w'.cell? ⟨w2.heap.size, 3 + k * 2 + 1, none⟩ = some (.string ts) ∧ w'.cell? ⟨b, o + k * 2, none⟩ = some (.bool tv) ∧ w'.cell? ⟨b, o + k * 2 + 1, none⟩ = some (.string ts)) (exact ⟨d1, d2, c1, c2⟩) ((go_at_call 19; refine (term_any tv ts _ (by exact htz) (hm.bel hbw)).mono ?_; rintro e w4 ⟨rfl, hg⟩; have d1 := cell_later hg d1; have d2 := cell_later hg d2; have c1 := cell_later hg c1; have c2 := cell_later hg c2; have hAw := hAw.bel hg; have hbr := hbr.trans' hg; have hbw := hbw.trans' hg; clear hg))
      all_goals go_wp2
      all_goals go_roundw
      case rel => exact ⟨k + 1, by omega, by go_num, Lib.hid ⟨hAw, hbr⟩⟩
      case measure => simp [intOf]; omega
    · obtain rfl : k = l.length := by omega
      have hX := H.out.1
      have hb := hbw
      by_cases h0 : l.length = 0
      · have hz : ((l.length : Int) == 0) = true := by simp [h0]
        go_wp2
        go_ret
        exact ⟨rfl, hb⟩
      have hz : ((l.length : Int) == 0) = false := beq_eq_false_iff_ne.2 (by omega)
      obtain ⟨m, hm1⟩ : ∃ m, l.length = m + 1 := ⟨l.length - 1, by omega⟩
      have HM1 := Lib.hid hm1
      have hmi : (l.length : Int) - 1 = (m : Int) := by omega
      have hmc : (m : Int) ≤ ca := by omega
      have hm0 : (0 : Int) ≤ m := by omega
      have hm3 : m < 4 := by omega
      have hm33 : (m : Int) < 4 := by omega
      have HLM : RowKit.Hid ((l.take m).length = m) := Lib.hid (by rw [List.length_take]; omega)
      have HM2 := Lib.hid (made_ok (s := s) (p := p) (l := l.take m) (by rw [HLM.out]; omega) (HZT.out m))
      have HFN : RowKit.Hid (setArg (setN z1 (m : Int)) m zeroT = storedD s p (l.take m)) := Lib.hid (by
        have h := made_less s p l (by omega) g3
        rw [show l.length - 1 = m by omega] at h
        rw [HX1.out]; exact h)
      have hzn : z1.n = (l.length : Int) := by rw [HX1.out]; rfl
      have HZN := Lib.hid hzn
      have HA2 := Lib.hid (fun h : A = none => (by have h1 := (HAA.out h).1; rw [h1] at hm1; simp at hm1 : l.take m = [] ∧ ca = 0))
      clear hm1 hzn
      go_wp2_with (first | (go_at_call 21; refine (own_len A (l.take m) m ca HLM.out _ ((HTT.out.bel hb).take m) (by rw [HLM.out]; omega) HA2.out).mono ?_; rintro e w5 ⟨⟨A5, ca5, rfl, hT5⟩, hg⟩; have HT5 := Lib.hid hT5; have hX := hX.bel hg; have hb := hb.trans' hg; clear hg hT5) | (go_at_call 10; refine (made_len s p _ (l.take m) m _ HLM.out _ (by omega) (by omega) HT5.out (by rw [HLM.out]; omega) (fun t ht => HSZ.out t (List.mem_of_mem_take ht)) (hm.bel hb)).mono ?_; rintro e w6 ⟨⟨z2, m2, HZ2, rfl⟩, hg⟩; obtain ⟨hz1, hz2⟩ := Prod.mk.inj (HZ2.out.trans HM2.out); subst hz2; have HX2 := Lib.hid hz1; clear hz1; have hhg := Nat.lt_of_lt_of_le hX.lt hg.size; have hX := hX.bel hg; obtain ⟨c0, c1, c2, _⟩ := hX.cells; rw [HZN.out] at c2; have hne : w2.heap.size ≠ w6.heap.size := Nat.ne_of_lt hhg; have hX := hX.bel (bel_alloc w6 (.cells #[.string z2.says, .string z2.pred, .int .i64 z2.n, .bool z2.t0.v, .string z2.t0.name, .bool z2.t1.v, .string z2.t1.name, .bool z2.t2.v, .string z2.t2.name, .bool z2.t3.v, .string z2.t3.name] 27)); have hY := AtomAt.new w6 z2; have hb := (hb.trans' hg).trans' (bel_alloc w6 (.cells #[.string z2.says, .string z2.pred, .int .i64 z2.n, .bool z2.t0.v, .string z2.t0.name, .bool z2.t1.v, .string z2.t1.name, .bool z2.t2.v, .string z2.t2.name, .bool z2.t3.v, .string z2.t3.name] 27)); clear hg) | ((with_reducible refine wpList_store_n ?_ (.tmp 103) (.tmp 102) ?_ w2.heap.size (m : Int) ?_ ?_ hX ?_); rfl; rfl; rfl; rfl; intro w7 hX7 hb7 ho7; obtain ⟨_, _, e2, _⟩ := hX7.cells; simp only [setN] at e2; clear c0 c1 c2; have hY := (ho7 w6.heap.size (Ne.symm hne)).trans hY; have hb := hb.trans (hb7.mono hw2); clear hb7 ho7) | ((with_reducible refine wpList_store_arg ?_ (.tmp 108) (.tmp 106) ?_ w2.heap.size m zeroT ?_ ?_ hX7 hm3 ?_); rfl; rfl; rfl; rfl; intro w8 hX8 hb8 ho8; have hX9 : AtomAt w8 w2.heap.size z2 := (by rw [HX2.out, ← HFN.out]; exact hX8); have hY := (ho8 w6.heap.size (Ne.symm hne)).trans hY; have hY9 : AtomAt w8 w6.heap.size z2 := hY; obtain ⟨c0, c1, c2, c3, c4, c5, c6, c7, c8, c9, c10⟩ := hX9.cells; obtain ⟨f0, f1, f2, f3, f4, f5, f6, f7, f8, f9, f10⟩ := hY9.cells; have hq := eql_atom z2 z2; have hqe : eqA z2 z2 = true := (eqA_iff _ _).2 rfl; have hb := hb.trans (hb8.mono hw2); clear e2))
      go_ret
      exact ⟨rfl, hb⟩
end Go.Proofs.YtobelhfhciafcaaDoor
