/-
  What two atoms meet in, and the reference's Under: the walks. Conditions: as each says.
-/
import Derived.Test.YtkcnbdlhggoojaaDoorUnR
namespace Go.Proofs.YtkcnbdlhggoojaaDoor
open Go.RowKit

theorem uniL_len6 : ∀ {ts us : List TermD} {m n : List BindD}, uniL m ts us = some n → n.length ≤ m.length + ts.length
  | [], us, m, n, h => by
    obtain rfl : m = n := by simpa [uniL] using h
    simp
  | t :: ts, [], m, n, h => by
    obtain rfl : m = n := by simpa [uniL] using h
    simp
  | t :: ts, u :: us, m, n, h => by
    unfold uniL at h
    split at h
    · have := uniL_len6 h
      simp; omega
    · split at h
      · cases h
      · split at h
        · have := uniL_len6 h
          have h2 := bindD_len m (dirD (subT m t) (subT m u)).1.name (dirD (subT m t) (subT m u)).2
          simp; omega
        · cases h
theorem uniR_len6 {a b : AtomD} {l : List BindD} {is : Bool} (h : (l, is) = uniR a b) : l.length ≤ 4 := by
  cases is
  · rw [(uniR_none h).1]; simp
  · have h1 := uniL_len6 (uni_pre (uniR_some h)).2
    have h2 := argsN_len a
    have h3 := cntI_le a.n
    simp at h1
    omega
set_option maxRecDepth 20000 in
set_option maxHeartbeats 4000000 in
theorem Meet_any (a b : AtomD) (w : World) :
    Calls Tryd.prog 9 #[.agg #[.string a.says, .string a.pred, .int .i64 a.n, .bool a.t0.v, .string a.t0.name, .bool a.t1.v, .string a.t1.name, .bool a.t2.v, .string a.t2.name, .bool a.t3.v, .string a.t3.name], .agg #[.string b.says, .string b.pred, .int .i64 b.n, .bool b.t0.v, .string b.t0.name, .bool b.t1.v, .string b.t1.name, .bool b.t2.v, .string b.t2.name, .bool b.t3.v, .string b.t3.name]] w fun e w' => (∃ q is, RowKit.Hid ((q, is) = meetR a b) ∧ e = .returned (.tuple #[.agg #[.string q.says, .string q.pred, .int .i64 q.n, .bool q.t0.v, .string q.t0.name, .bool q.t1.v, .string q.t1.name, .bool q.t2.v, .string q.t2.name, .bool q.t3.v, .string q.t3.name], .bool is])) ∧ Bel w w' := by
  have hP := AtomAt.new w a
  have hP := hP.bel (bel_alloc (w.alloc (.cells #[.string a.says, .string a.pred, .int .i64 a.n, .bool a.t0.v, .string a.t0.name, .bool a.t1.v, .string a.t1.name, .bool a.t2.v, .string a.t2.name, .bool a.t3.v, .string a.t3.name] 30)) (.cells #[.string b.says, .string b.pred, .int .i64 b.n, .bool b.t0.v, .string b.t0.name, .bool b.t1.v, .string b.t1.name, .bool b.t2.v, .string b.t2.name, .bool b.t3.v, .string b.t3.name] 30))
  have hP := hP.bel (bel_alloc ((w.alloc (.cells #[.string a.says, .string a.pred, .int .i64 a.n, .bool a.t0.v, .string a.t0.name, .bool a.t1.v, .string a.t1.name, .bool a.t2.v, .string a.t2.name, .bool a.t3.v, .string a.t3.name] 30)).alloc (.cells #[.string b.says, .string b.pred, .int .i64 b.n, .bool b.t0.v, .string b.t0.name, .bool b.t1.v, .string b.t1.name, .bool b.t2.v, .string b.t2.name, .bool b.t3.v, .string b.t3.name] 30)) (.cells #[.string zeroA.says, .string zeroA.pred, .int .i64 zeroA.n, .bool zeroA.t0.v, .string zeroA.t0.name, .bool zeroA.t1.v, .string zeroA.t1.name, .bool zeroA.t2.v, .string zeroA.t2.name, .bool zeroA.t3.v, .string zeroA.t3.name] 30))
  have hZ := AtomAt.new ((w.alloc (.cells #[.string a.says, .string a.pred, .int .i64 a.n, .bool a.t0.v, .string a.t0.name, .bool a.t1.v, .string a.t1.name, .bool a.t2.v, .string a.t2.name, .bool a.t3.v, .string a.t3.name] 30)).alloc (.cells #[.string b.says, .string b.pred, .int .i64 b.n, .bool b.t0.v, .string b.t0.name, .bool b.t1.v, .string b.t1.name, .bool b.t2.v, .string b.t2.name, .bool b.t3.v, .string b.t3.name] 30)) zeroA
  rw [show ((w.alloc (.cells #[.string a.says, .string a.pred, .int .i64 a.n, .bool a.t0.v, .string a.t0.name, .bool a.t1.v, .string a.t1.name, .bool a.t2.v, .string a.t2.name, .bool a.t3.v, .string a.t3.name] 30)).alloc (.cells #[.string b.says, .string b.pred, .int .i64 b.n, .bool b.t0.v, .string b.t0.name, .bool b.t1.v, .string b.t1.name, .bool b.t2.v, .string b.t2.name, .bool b.t3.v, .string b.t3.name] 30)).heap.size = w.heap.size + 1 + 1 by simp] at hZ
  have hb := ((bel_alloc w (.cells #[.string a.says, .string a.pred, .int .i64 a.n, .bool a.t0.v, .string a.t0.name, .bool a.t1.v, .string a.t1.name, .bool a.t2.v, .string a.t2.name, .bool a.t3.v, .string a.t3.name] 30)).trans' (bel_alloc _ (.cells #[.string b.says, .string b.pred, .int .i64 b.n, .bool b.t0.v, .string b.t0.name, .bool b.t1.v, .string b.t1.name, .bool b.t2.v, .string b.t2.name, .bool b.t3.v, .string b.t3.name] 30))).trans' (bel_alloc _ (.cells #[.string zeroA.says, .string zeroA.pred, .int .i64 zeroA.n, .bool zeroA.t0.v, .string zeroA.t0.name, .bool zeroA.t1.v, .string zeroA.t1.name, .bool zeroA.t2.v, .string zeroA.t2.name, .bool zeroA.t3.v, .string zeroA.t3.name] 30))
  simp only [zeroA, zeroT] at hP hb
  have hU := Lib.hid (fun W => Unify_any a b W)
  go_enter Tryd.func9, Tryd.ntmps9
  go_wp2_with (fail)
  refine (hU.out _).mono ?_
  rintro e w1 ⟨⟨q6, k6, m, is, HE, HL, rfl⟩, hg⟩
  have hP := hP.bel hg
  have hZ := hZ.bel hg
  have hb := hb.trans' hg
  obtain ⟨c0, c1, c2, c3, c4, c5, c6, c7, c8, c9, c10⟩ := hP.cells
  clear hg hU
  cases is
  · have HM : RowKit.Hid (meetR a b = (zeroA, false)) := Lib.hid (meet_none (uniR_none HE.out).2)
    go_wp2_with ((with_reducible refine wpList_store_atom ?_ (.tmp 4) (.tmp 16) ?_ (w.heap.size + 1 + 1) zeroA ?_ ?_ hZ ?_); rfl; rfl; rfl; rfl; intro w3 hR hb3 _; have hb := hb.trans (hb3.mono (by omega)); clear hb3)
    try simp only [Exit.inBlock, Exit.then]
    refine bodyPost_ret (results_atom2 rfl _ _ _ _ rfl hR) rfl ?_
    exact ⟨⟨_, _, Lib.hid HM.out.symm, rfl⟩, hb⟩
  · have HM : RowKit.Hid (meetR a b = (applyA m a, true)) := Lib.hid (meet_some (uniR_some HE.out))
    have hAp := Lib.hid (Apply_len q6 m m.length k6 rfl a w1 HL.out (by have := uniR_len6 HE.out; omega))
    go_wp2_with (fail)
    refine hAp.out.mono ?_
    rintro e w2 ⟨⟨x, HX, rfl⟩, hg⟩
    have hZ := hZ.bel hg
    have hb := hb.trans' hg
    clear hg c0 c1 c2 c3 c4 c5 c6 c7 c8 c9 c10
    go_wp2_with ((with_reducible refine wpList_store_atom ?_ (.tmp 4) (.tmp 19) ?_ (w.heap.size + 1 + 1) x ?_ ?_ hZ ?_); rfl; rfl; rfl; rfl; intro w3 hR hb3 _; have hb := hb.trans (hb3.mono (by omega)); clear hb3)
    try simp only [Exit.inBlock, Exit.then]
    refine bodyPost_ret (results_atom2 rfl _ _ _ _ rfl hR) rfl ?_
    exact ⟨⟨_, _, Lib.hid (by rw [HM.out, HX.out]), rfl⟩, hb⟩

def argAt (a : AtomD) (i : Nat) : TermD := (argsD a).getD i zeroT
def headU (p a : AtomD) (i : Nat) : Bool := (argAt p i).v || eqT (argAt p i) (argAt a i)
def fitU (p a : AtomD) (i k : Nat) : Bool := !((argAt p i).v && eqT (argAt p i) (argAt p k)) || eqT (argAt a i) (argAt a k)
def rowU (p a : AtomD) (i : Nat) : Bool := headU p a i && (List.range i).all (fitU p a i)
def underU (a p : AtomD) : Bool := alikeD a p && (List.range (cntI a.n)).all (rowU p a)
theorem argAt_get {a : AtomD} {k : Nat} {t : TermD} (h : (argsD a)[k]? = some t) : argAt a k = t := by
  unfold argAt
  rw [List.getD_eq_getElem?_getD, h]; rfl
theorem argAt_N {a : AtomD} {i : Nat} (h : i < (argsN a).length) : (argsN a)[i] = argAt a i := by
  rw [argsN_len] at h
  obtain ⟨h1, h2, h3⟩ := argsN_at h
  rw [h3, argAt_get (List.getElem?_eq_getElem h2)]
theorem underU_eq (a p : AtomD) : underU a p = underD a p := by
  rw [Bool.eq_iff_iff, under_iff]
  unfold underU
  rw [Bool.and_eq_true, List.all_eq_true]
  refine and_congr_right fun hal => ?_
  have hn : cntI a.n = cntI p.n := by rw [(alike_iff.1 hal).2.2.1]
  constructor
  · intro h i j hi hj ki kj
    rw [argAt_N, argAt_N, argAt_N, argAt_N]
    have hiN := hi
    have hjN := hj
    rw [argsN_len] at hiN hjN
    have key : ∀ i j, i < cntI p.n → j < i → (argAt p i).v = true → argAt p i = argAt p j → argAt a i = argAt a j := fun i j hi hji hv he => by
      have hr := h i (List.mem_range.2 (by omega))
      unfold rowU at hr
      rw [Bool.and_eq_true, List.all_eq_true] at hr
      have hf := hr.2 j (List.mem_range.2 hji)
      unfold fitU at hf
      rw [hv, (eqT_iff _ _).2 he] at hf
      exact (eqT_iff _ _).1 (by simpa using hf)
    refine ⟨fun hc => ?_, fun hv he => ?_⟩
    · have hr := h i (List.mem_range.2 (by omega))
      unfold rowU headU at hr
      rw [Bool.and_eq_true, hc] at hr
      exact ((eqT_iff _ _).1 (by simpa using hr.1)).symm
    · rcases Nat.lt_trichotomy i j with hlt | rfl | hlt
      · exact (key j i hjN hlt (by rw [← he]; exact hv) he.symm).symm
      · rfl
      · exact key i j hiN hlt hv he
  · intro h i hi
    have hi := List.mem_range.1 hi
    have hip : i < (argsN p).length := by rw [argsN_len, ← hn]; exact hi
    have hia : i < (argsN a).length := by rw [argsN_len]; exact hi
    unfold rowU
    rw [Bool.and_eq_true, List.all_eq_true]
    refine ⟨?_, fun j hj => ?_⟩
    · have := (h i i hip hip hia hia).1
      rw [argAt_N, argAt_N] at this
      unfold headU
      cases hv : (argAt p i).v with
      | true => rfl
      | false => rw [(eqT_iff _ _).2 (this hv).symm]; rfl
    · have hj := List.mem_range.1 hj
      have hjp : j < (argsN p).length := by omega
      have hja : j < (argsN a).length := by omega
      have := (h i j hip hjp hia hja).2
      rw [argAt_N, argAt_N, argAt_N, argAt_N] at this
      unfold fitU
      cases hv : (argAt p i).v with
      | false => rfl
      | true =>
        cases he : eqT (argAt p i) (argAt p j) with
        | false => rfl
        | true => rw [(eqT_iff _ _).2 (this hv ((eqT_iff _ _).1 he))]; rfl
theorem underU_no {a p : AtomD} (h : alikeD a p = false) : underU a p = false := by unfold underU; rw [h]; rfl
theorem underU_yes {a p : AtomD} (h : alikeD a p = true) (k : (List.range (cntI a.n)).all (rowU p a) = true) : underU a p = true := by unfold underU; rw [h, k]; rfl
theorem underU_not {a p : AtomD} {i : Nat} (hi : i < cntI a.n) (h : rowU p a i = false) : underU a p = false := by
  unfold underU
  rw [Bool.and_eq_false_iff]
  refine .inr ?_
  rw [List.all_eq_false]
  exact ⟨i, List.mem_range.2 hi, by rw [h]; decide⟩
theorem rowU_head {a p : AtomD} {i : Nat} (h : headU p a i = false) : rowU p a i = false := by unfold rowU; rw [h]; rfl
theorem rowU_fit {a p : AtomD} {i k : Nat} (hk : k < i) (h : fitU p a i k = false) : rowU p a i = false := by
  unfold rowU
  rw [Bool.and_eq_false_iff]
  refine .inr ?_
  rw [List.all_eq_false]
  exact ⟨k, List.mem_range.2 hk, by rw [h]; decide⟩
theorem rowU_yes {a p : AtomD} {i : Nat} (h : headU p a i = true) (h2 : (List.range i).all (fitU p a i) = true) : rowU p a i = true := by unfold rowU; rw [h, h2]; rfl

set_option maxRecDepth 20000 in
set_option maxHeartbeats 4000000 in
theorem rAlike5_anyU (a b : AtomD) (w : World) :
    Calls Tryd.prog 36 #[.agg #[.string a.says, .string a.pred, .int .i64 a.n, .bool a.t0.v, .string a.t0.name, .bool a.t1.v, .string a.t1.name, .bool a.t2.v, .string a.t2.name, .bool a.t3.v, .string a.t3.name], .agg #[.string b.says, .string b.pred, .int .i64 b.n, .bool b.t0.v, .string b.t0.name, .bool b.t1.v, .string b.t1.name, .bool b.t2.v, .string b.t2.name, .bool b.t3.v, .string b.t3.name]] w fun e w' => e = .returned (.bool (alikeD a b)) ∧ Bel w w' := by
  have hb := (bel_alloc w (.cells #[.string a.says, .string a.pred, .int .i64 a.n, .bool a.t0.v, .string a.t0.name, .bool a.t1.v, .string a.t1.name, .bool a.t2.v, .string a.t2.name, .bool a.t3.v, .string a.t3.name] 30)).trans' (bel_alloc _ (.cells #[.string b.says, .string b.pred, .int .i64 b.n, .bool b.t0.v, .string b.t0.name, .bool b.t1.v, .string b.t1.name, .bool b.t2.v, .string b.t2.name, .bool b.t3.v, .string b.t3.name] 30))
  have HL : RowKit.Hid (alikeD a b = ((a.says.toList == b.says.toList) && ((a.pred.toList == b.pred.toList) && ((a.n == b.n) && (decide (0 ≤ a.n) && decide (a.n ≤ 4)))))) := Lib.hid rfl
  rcases Bool.eq_false_or_eq_true (a.says.toList == b.says.toList) with q1 | q1 <;> rcases Bool.eq_false_or_eq_true (a.pred.toList == b.pred.toList) with q2 | q2 <;> rcases Bool.eq_false_or_eq_true (a.n == b.n) with q3 | q3 <;> rcases Bool.eq_false_or_eq_true (decide (0 ≤ a.n)) with q4 | q4 <;> rcases Bool.eq_false_or_eq_true (decide (a.n ≤ 4)) with q5 | q5
  all_goals
    rw [q1, q2, q3, q4, q5] at HL
    go_enter Tryd.func36, Tryd.ntmps36
    go_wp2
    go_ret
    exact ⟨ret_bool HL.out.symm, hb⟩
set_option maxRecDepth 20000 in
set_option maxHeartbeats 16000000 in
theorem rUnder_any (a p : AtomD) (w : World) :
    Calls Tryd.prog 19 #[.agg #[.string a.says, .string a.pred, .int .i64 a.n, .bool a.t0.v, .string a.t0.name, .bool a.t1.v, .string a.t1.name, .bool a.t2.v, .string a.t2.name, .bool a.t3.v, .string a.t3.name], .agg #[.string p.says, .string p.pred, .int .i64 p.n, .bool p.t0.v, .string p.t0.name, .bool p.t1.v, .string p.t1.name, .bool p.t2.v, .string p.t2.name, .bool p.t3.v, .string p.t3.name]] w fun e w' => e = .returned (.bool (underD a p)) ∧ Bel w w' := by
  rw [← underU_eq]
  have hP := AtomAt.new w a
  have hG := AtomAt.new (w.alloc (.cells #[.string a.says, .string a.pred, .int .i64 a.n, .bool a.t0.v, .string a.t0.name, .bool a.t1.v, .string a.t1.name, .bool a.t2.v, .string a.t2.name, .bool a.t3.v, .string a.t3.name] 30)) p
  rw [show (w.alloc (.cells #[.string a.says, .string a.pred, .int .i64 a.n, .bool a.t0.v, .string a.t0.name, .bool a.t1.v, .string a.t1.name, .bool a.t2.v, .string a.t2.name, .bool a.t3.v, .string a.t3.name] 30)).heap.size = w.heap.size + 1 by simp] at hG
  have g2 := bel_alloc (w.alloc (.cells #[.string a.says, .string a.pred, .int .i64 a.n, .bool a.t0.v, .string a.t0.name, .bool a.t1.v, .string a.t1.name, .bool a.t2.v, .string a.t2.name, .bool a.t3.v, .string a.t3.name] 30)) (.cells #[.string p.says, .string p.pred, .int .i64 p.n, .bool p.t0.v, .string p.t0.name, .bool p.t1.v, .string p.t1.name, .bool p.t2.v, .string p.t2.name, .bool p.t3.v, .string p.t3.name] 30)
  have hP := hP.bel g2
  have hb := (bel_alloc w (.cells #[.string a.says, .string a.pred, .int .i64 a.n, .bool a.t0.v, .string a.t0.name, .bool a.t1.v, .string a.t1.name, .bool a.t2.v, .string a.t2.name, .bool a.t3.v, .string a.t3.name] 30)).trans' g2
  clear g2
  have hAl := Lib.hid (fun W => rAlike5_anyU a p W)
  cases hal : alikeD a p
  · rw [hal] at hAl
    have HE := Lib.hid (underU_no hal)
    clear hal
    go_enter Tryd.func19, Tryd.ntmps19
    go_wp2_with (go_at_call 36; refine (hAl.out _).mono ?_; rintro e w1 ⟨rfl, hg⟩; have hb := hb.trans' hg; clear hg)
    go_ret
    exact ⟨ret_bool HE.out.symm, hb⟩
  rw [hal] at hAl
  have HAL := Lib.hid hal
  obtain ⟨x1, x2, hpn, hn0, hn4⟩ := alike_iff.1 hal
  obtain ⟨N, hN⟩ : ∃ N, N = cntI a.n := ⟨_, rfl⟩
  have hNn : (N : Int) = a.n := by rw [hN]; unfold cntI; omega
  have HN := Lib.hid hN
  have hN4 : N ≤ 4 := by omega
  have HNP := Lib.hid hNn
  clear hal x1 x2 hpn hn0 hn4 hNn hN
  go_enter Tryd.func19, Tryd.ntmps19
  go_wp2_with (go_at_call 36; refine (hAl.out _).mono ?_; rintro e w1 ⟨rfl, hg⟩; have hP := hP.bel hg; have hG := hG.bel hg; have hb := hb.trans' hg; clear hg)
  have HP := Lib.hid hP
  have HG := Lib.hid hG
  have HB := Lib.hid hb
  clear hP hG hb hAl
  go_loopw [5] (fun i wr => ∃ k : Nat, k ≤ N ∧ i = .int .i64 k ∧ RowKit.Hid (Bel w1 wr ∧ (List.range k).all (rowU p a) = true)) (fun i _ => 4 - (intOf i).toNat)
  case atStart => exact ⟨0, Nat.zero_le _, rfl, Lib.hid ⟨Below.refl _ _, rfl⟩⟩
  case round =>
    obtain ⟨k, hk, rfl, H⟩ := hrel
    have HW := Lib.hid H.out.1
    have HR := Lib.hid H.out.2
    clear H
    have hP := HP.out.bel HW.out
    have hG := HG.out.bel HW.out
    obtain ⟨_, _, pn, _⟩ := hP.cells
    rw [← HNP.out] at pn
    by_cases hlt : k < N
    case neg =>
      obtain rfl : k = N := by omega
      have hkN : ¬ (k : Int) < (k : Int) := by omega
      have HE := Lib.hid (underU_yes HAL.out (by rw [← HN.out]; exact HR.out))
      have HBB := Lib.hid (HB.out.trans' HW.out)
      clear hlt
      go_wp2
      go_ret
      exact ⟨ret_bool HE.out.symm, HBB.out⟩
    have hk4 : k < 4 := by omega
    have hk4i : (k : Int) < 4 := by omega
    have hk0 : (0 : Int) ≤ k := by omega
    have hkN : (k : Int) < (N : Int) := by omega
    obtain ⟨s, hs⟩ := args_get p k hk4
    obtain ⟨t, ht⟩ := args_get a k hk4
    obtain ⟨a1, a2⟩ := terms_at hG hs
    obtain ⟨b1, b2⟩ := terms_at hP ht
    have HS := Lib.hid (argAt_get hs)
    have HT := Lib.hid (argAt_get ht)
    have hlt2 : k < cntI a.n := by rw [← HN.out]; exact hlt
    have HL2 := Lib.hid hlt2
    clear hs ht hP hG hlt2
    obtain ⟨sv, sn⟩ := s
    obtain ⟨tv, tn⟩ := t
    simp only at a1 a2 b1 b2
    go_upto_region 6 with fail
    go_cut [33] (fun s33 wx => s33 = .bool (!headU p a k) ∧ RowKit.Hid (Bel wr wx))
    case first =>
      have hq := neq_term sv tv sn tn
      have HH : RowKit.Hid (headU p a k = (sv || eqT ⟨sv, sn⟩ ⟨tv, tn⟩)) := Lib.hid (by unfold headU; rw [HS.out, HT.out])
      cases sv
      · cases hf : eqT ⟨false, sn⟩ ⟨tv, tn⟩ <;> rw [hf] at hq HH
        all_goals
          clear hf
          go_quiet (fail)
          (try go_wp2_with fail)
          go_meet
          exact ⟨by rw [HH.out]; rfl, Lib.hid (by first | exact Below.refl _ _ | exact bel_drewN _ _ | exact bel_drew' (Below.refl _ _))⟩
      · clear hq
        go_quiet (fail)
        (try go_wp2_with fail)
        go_meet
        exact ⟨by rw [HH.out]; rfl, Lib.hid (by first | exact Below.refl _ _ | exact bel_drewN _ _ | exact bel_drew' (Below.refl _ _))⟩
    obtain ⟨h33, HC⟩ := hcut
    have HWc := Lib.hid (HW.out.trans' HC.out)
    have HBc := Lib.hid (HB.out.trans' HWc.out)
    clear a1 a2 b1 b2 HS HT pn
    cases hh : headU p a k
    · rw [hh] at h33
      have h34 := h33
      simp only [Bool.not_false] at h34
      subst h34
      have HE := Lib.hid (underU_not HL2.out (rowU_head hh))
      clear hh h33
      go_wp2
      go_ret
      exact ⟨ret_bool HE.out.symm, HBc.out⟩
    rw [hh] at h33
    have h34 := h33
    simp only [Bool.not_true] at h34
    subst h34
    have HH := Lib.hid hh
    clear hh h33
    go_wp2
    go_loopw [6] (fun j wi => ∃ k2 : Nat, k2 ≤ k ∧ j = .int .i64 k2 ∧ RowKit.Hid (Bel w1 wi ∧ (List.range k2).all (fitU p a k) = true)) (fun j _ => k - (intOf j).toNat)
    case atStart => exact ⟨0, Nat.zero_le _, rfl, Lib.hid ⟨HWc.out, rfl⟩⟩
    case round =>
      obtain ⟨k2, hk2, rfl, H⟩ := hrel
      have HW2 := Lib.hid H.out.1
      have HR2 := Lib.hid H.out.2
      clear H
      have HB2 := Lib.hid (HB.out.trans' HW2.out)
      by_cases hlt2 : k2 < k
      case neg =>
        obtain rfl : k2 = k := by omega
        have hkk : ¬ (k2 : Int) < (k2 : Int) := by omega
        have HRR := Lib.hid (range_succ HR.out (rowU_yes HH.out HR2.out))
        clear hlt2 hk2
        go_wp2
        go_roundw
        case rel => exact ⟨k2 + 1, by omega, by go_num, Lib.hid ⟨HW2.out, HRR.out⟩⟩
        case measure => simp [intOf]; omega
      have hk24 : k2 < 4 := by omega
      have hk24i : (k2 : Int) < 4 := by omega
      have hk20 : (0 : Int) ≤ k2 := by omega
      have hkk : (k2 : Int) < (k : Int) := by omega
      obtain ⟨s2, hs2⟩ := args_get p k2 hk24
      obtain ⟨t2, ht2⟩ := args_get a k2 hk24
      obtain ⟨s, hs⟩ := args_get p k hk4
      obtain ⟨t, ht⟩ := args_get a k hk4
      have hP := HP.out.bel HW2.out
      have hG := HG.out.bel HW2.out
      obtain ⟨a1, a2⟩ := terms_at hG hs
      obtain ⟨b1, b2⟩ := terms_at hP ht
      obtain ⟨c1, c2⟩ := terms_at hG hs2
      obtain ⟨d1, d2⟩ := terms_at hP ht2
      have HS := Lib.hid (argAt_get hs)
      have HT := Lib.hid (argAt_get ht)
      have HS2 := Lib.hid (argAt_get hs2)
      have HT2 := Lib.hid (argAt_get ht2)
      clear hs ht hs2 ht2 hP hG
      obtain ⟨sv, sn⟩ := s
      obtain ⟨tv, tn⟩ := t
      obtain ⟨xv, xn⟩ := s2
      obtain ⟨yv, yn⟩ := t2
      simp only at a1 a2 b1 b2 c1 c2 d1 d2
      go_upto_region 11 with fail
      go_cut [65] (fun s65 wx => s65 = .bool (!fitU p a k k2) ∧ RowKit.Hid (Bel wr wx))
      case first =>
        have hq := eql_term sv xv sn xn
        have hr := neq_term tv yv tn yn
        have HF : RowKit.Hid (fitU p a k k2 = (!(sv && eqT ⟨sv, sn⟩ ⟨xv, xn⟩) || eqT ⟨tv, tn⟩ ⟨yv, yn⟩)) := Lib.hid (by unfold fitU; rw [HS.out, HT.out, HS2.out, HT2.out])
        cases sv
        · clear hq hr
          go_quiet (fail)
          (try go_wp2_with fail)
          go_meet
          exact ⟨by rw [HF.out]; rfl, Lib.hid (by first | exact Below.refl _ _ | exact bel_drewN _ _ | exact bel_drew' (Below.refl _ _))⟩
        · cases hf : eqT ⟨true, sn⟩ ⟨xv, xn⟩ <;> rw [hf] at hq HF
          · clear hf hr
            go_quiet (fail)
            (try go_wp2_with fail)
            go_meet
            exact ⟨by rw [HF.out]; rfl, Lib.hid (by first | exact Below.refl _ _ | exact bel_drewN _ _ | exact bel_drew' (Below.refl _ _))⟩
          · cases hg : eqT ⟨tv, tn⟩ ⟨yv, yn⟩ <;> rw [hg] at hr HF
            all_goals
              clear hf hg
              go_quiet (fail)
              (try go_wp2_with fail)
              go_meet
              exact ⟨by rw [HF.out]; rfl, Lib.hid (by first | exact Below.refl _ _ | exact bel_drewN _ _ | exact bel_drew' (Below.refl _ _))⟩
      obtain ⟨h65, HC2⟩ := hcut
      have HW3 := Lib.hid (HW2.out.trans' HC2.out)
      have HB3 := Lib.hid (HB.out.trans' HW3.out)
      clear a1 a2 b1 b2 c1 c2 d1 d2 HS HT HS2 HT2
      cases hh : fitU p a k k2
      · rw [hh] at h65
        have h66 := h65
        simp only [Bool.not_false] at h66
        subst h66
        have HE := Lib.hid (underU_not HL2.out (rowU_fit hlt2 hh))
        clear hh h65
        go_wp2
        go_ret
        exact ⟨ret_bool HE.out.symm, HB3.out⟩
      rw [hh] at h65
      have h66 := h65
      simp only [Bool.not_true] at h66
      subst h66
      have HRR := Lib.hid (range_succ HR2.out hh)
      clear hh h65
      go_wp2
      go_roundw
      case rel => exact ⟨k2 + 1, by omega, by go_num, Lib.hid ⟨HW3.out, HRR.out⟩⟩
      case measure => simp [intOf]; omega
end Go.Proofs.YtkcnbdlhggoojaaDoor
