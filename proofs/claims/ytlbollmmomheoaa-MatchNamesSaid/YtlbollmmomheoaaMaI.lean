/-
  The law MatchAll for every input. Conditions: what came in lies as its parameters' types say.
-/
import Derived.Test.YtlbollmmomheoaaMaL
namespace Go.Proofs.Ytlbollmmomheoaa
open Go.RowKit

theorem filter_at {f : AtomD → Bool} {l : List AtomD} {i : Nat} {x : AtomD} (h : l[i]? = some x) (hx : f x = true) : (l.filter f)[((l.take i).filter f).length]? = some x := by
  have e : l = l.take i ++ x :: l.drop (i + 1) := by
    obtain ⟨hi, rfl⟩ := List.getElem?_eq_some_iff.1 h
    rw [← List.drop_eq_getElem_cons hi, List.take_append_drop]
  have e2 : l.filter f = (l.take i).filter f ++ x :: (l.drop (i + 1)).filter f := by
    conv => lhs; rw [e]
    rw [List.filter_append, List.filter_cons, if_pos hx]
  rw [e2, List.getElem?_append_right (Nat.le_refl _), Nat.sub_self]
  rfl
theorem filter_twice (f : AtomD → Bool) (l : List AtomD) : (l.filter f).filter f = l.filter f := by
  rw [List.filter_filter]; simp
theorem filter_in {f g : AtomD → Bool} : ∀ {l : List AtomD}, (∀ x ∈ l, f x = true → g x = true) → (l.filter f).length ≤ (l.filter g).length ∧ (l.filter f).filter g = l.filter f
  | [], _ => by simp
  | x :: l, h => by
    obtain ⟨h1, h2⟩ := filter_in (l := l) (fun y hy => h y (List.mem_cons_of_mem _ hy))
    have h3 := h x (List.mem_cons_self ..)
    rw [List.filter_cons, List.filter_cons]
    cases hf : f x with
    | true =>
      rw [h3 hf, if_pos rfl, if_pos rfl, List.filter_cons, h3 hf, if_pos rfl, h2]
      exact ⟨by simpa using h1, rfl⟩
    | false =>
      rw [if_neg (by decide)]
      refine ⟨?_, h2⟩
      split
      · simp only [List.length_cons]; omega
      · exact h1
set_option maxRecDepth 20000 in
set_option maxHeartbeats 16000000 in
theorem lawMatchAll (p q : AtomD) (A : Option Addr) (l : List AtomD) (ca : Nat) (w : World) (hpk : AtomOk p) (hqk : AtomOk q) (hL : AL w A ca l) (hlk : ∀ x ∈ l, AtomOk x) (hll : l.length ≤ 9223372036854775807) :
    Calls Try.prog 8 #[.agg #[.string p.says, .string p.pred, .int .i64 p.n, .bool p.t0.v, .string p.t0.name, .bool p.t1.v, .string p.t1.name, .bool p.t2.v, .string p.t2.name, .bool p.t3.v, .string p.t3.name], .agg #[.string q.says, .string q.pred, .int .i64 q.n, .bool q.t0.v, .string q.t0.name, .bool q.t1.v, .string q.t1.name, .bool q.t2.v, .string q.t2.name, .bool q.t3.v, .string q.t3.name], .slice A l.length ca] w fun e w' => e = .returned (.bool true) ∧ Bel w w' := by
  have hP := AtomAt.new w p
  have hP := hP.bel (bel_alloc (w.alloc (.cells #[.string p.says, .string p.pred, .int .i64 p.n, .bool p.t0.v, .string p.t0.name, .bool p.t1.v, .string p.t1.name, .bool p.t2.v, .string p.t2.name, .bool p.t3.v, .string p.t3.name] 43)) (.cells #[.string q.says, .string q.pred, .int .i64 q.n, .bool q.t0.v, .string q.t0.name, .bool q.t1.v, .string q.t1.name, .bool q.t2.v, .string q.t2.name, .bool q.t3.v, .string q.t3.name] 43))
  have hQ := AtomAt.new (w.alloc (.cells #[.string p.says, .string p.pred, .int .i64 p.n, .bool p.t0.v, .string p.t0.name, .bool p.t1.v, .string p.t1.name, .bool p.t2.v, .string p.t2.name, .bool p.t3.v, .string p.t3.name] 43)) q
  rw [show (w.alloc (.cells #[.string p.says, .string p.pred, .int .i64 p.n, .bool p.t0.v, .string p.t0.name, .bool p.t1.v, .string p.t1.name, .bool p.t2.v, .string p.t2.name, .bool p.t3.v, .string p.t3.name] 43)).heap.size = w.heap.size + 1 by simp] at hQ
  have hb := (bel_alloc w (.cells #[.string p.says, .string p.pred, .int .i64 p.n, .bool p.t0.v, .string p.t0.name, .bool p.t1.v, .string p.t1.name, .bool p.t2.v, .string p.t2.name, .bool p.t3.v, .string p.t3.name] 43)).trans' (bel_alloc (w.alloc (.cells #[.string p.says, .string p.pred, .int .i64 p.n, .bool p.t0.v, .string p.t0.name, .bool p.t1.v, .string p.t1.name, .bool p.t2.v, .string p.t2.name, .bool p.t3.v, .string p.t3.name] 43)) (.cells #[.string q.says, .string q.pred, .int .i64 q.n, .bool q.t0.v, .string q.t0.name, .bool q.t1.v, .string q.t1.name, .bool q.t2.v, .string q.t2.name, .bool q.t3.v, .string q.t3.name] 43))
  have HL := Lib.hid hL
  have HLK := Lib.hid hlk
  clear hL hlk
  have hLl := Lib.hid (fun W (hg : Bel w W) => lightAs_any A l ca 40 W (HL.out.bel hg) hll HLK.out)
  have hLp := Lib.hid (fun W => light_any p W hpk)
  have hKp := Lib.hid (fun W => rCheck_any p W hpk)
  have hLq := Lib.hid (fun W => light_any q W hqk)
  have hKq := Lib.hid (fun W => rCheck_any q W hqk)
  cases q0 : lightA p
  case false =>
    rw [q0] at hLp
    clear q0
    go_enter Try.func8, Try.ntmps8
    go_wp2_with (fail)
    refine (lives5_any _).mono ?_
    rintro e w1 ⟨rfl, hg⟩
    have hP := hP.bel hg
    have hQ := hQ.bel hg
    have hb := hb.trans' hg
    clear hg
    obtain ⟨c0, c1, c2, c3, c4, c5, c6, c7, c8, c9, c10⟩ := hP.cells
    go_wp2_with (fail)
    refine (hLp.out _).mono ?_
    rintro e w2 ⟨rfl, hg⟩
    have hP := hP.bel hg
    have hQ := hQ.bel hg
    have hb := hb.trans' hg
    clear hg
    clear c0 c1 c2 c3 c4 c5 c6 c7 c8 c9 c10
    obtain ⟨c0, c1, c2, c3, c4, c5, c6, c7, c8, c9, c10⟩ := hQ.cells
    go_wp2
    go_ret
    exact ⟨rfl, hb⟩
  rw [q0] at hLp
  cases q1 : lightA q
  case false =>
    rw [q1] at hLq
    clear q1 q0
    go_enter Try.func8, Try.ntmps8
    go_wp2_with (fail)
    refine (lives5_any _).mono ?_
    rintro e w1 ⟨rfl, hg⟩
    have hP := hP.bel hg
    have hQ := hQ.bel hg
    have hb := hb.trans' hg
    clear hg
    obtain ⟨c0, c1, c2, c3, c4, c5, c6, c7, c8, c9, c10⟩ := hP.cells
    go_wp2_with (fail)
    refine (hLp.out _).mono ?_
    rintro e w2 ⟨rfl, hg⟩
    have hP := hP.bel hg
    have hQ := hQ.bel hg
    have hb := hb.trans' hg
    clear hg
    clear c0 c1 c2 c3 c4 c5 c6 c7 c8 c9 c10
    obtain ⟨c0, c1, c2, c3, c4, c5, c6, c7, c8, c9, c10⟩ := hQ.cells
    go_wp2_with (fail)
    refine (hLq.out _).mono ?_
    rintro e w3 ⟨rfl, hg⟩
    have hP := hP.bel hg
    have hQ := hQ.bel hg
    have hb := hb.trans' hg
    clear hg
    clear c0 c1 c2 c3 c4 c5 c6 c7 c8 c9 c10
    go_wp2
    go_ret
    exact ⟨rfl, hb⟩
  rw [q1] at hLq
  cases q2 : lightAs l 40
  case false =>
    rw [q2] at hLl
    clear q2 q0 q1
    go_enter Try.func8, Try.ntmps8
    go_wp2_with (fail)
    refine (lives5_any _).mono ?_
    rintro e w1 ⟨rfl, hg⟩
    have hP := hP.bel hg
    have hQ := hQ.bel hg
    have hb := hb.trans' hg
    clear hg
    obtain ⟨c0, c1, c2, c3, c4, c5, c6, c7, c8, c9, c10⟩ := hP.cells
    go_wp2_with (fail)
    refine (hLp.out _).mono ?_
    rintro e w2 ⟨rfl, hg⟩
    have hP := hP.bel hg
    have hQ := hQ.bel hg
    have hb := hb.trans' hg
    clear hg
    clear c0 c1 c2 c3 c4 c5 c6 c7 c8 c9 c10
    obtain ⟨c0, c1, c2, c3, c4, c5, c6, c7, c8, c9, c10⟩ := hQ.cells
    go_wp2_with (fail)
    refine (hLq.out _).mono ?_
    rintro e w3 ⟨rfl, hg⟩
    have hP := hP.bel hg
    have hQ := hQ.bel hg
    have hb := hb.trans' hg
    clear hg
    clear c0 c1 c2 c3 c4 c5 c6 c7 c8 c9 c10
    go_wp2_with (fail)
    refine (hLl.out _ hb).mono ?_
    rintro e w4 ⟨rfl, hg⟩
    have hP := hP.bel hg
    have hQ := hQ.bel hg
    have hb := hb.trans' hg
    clear hg
    obtain ⟨c0, c1, c2, c3, c4, c5, c6, c7, c8, c9, c10⟩ := hP.cells
    go_wp2
    go_ret
    exact ⟨rfl, hb⟩
  rw [q2] at hLl
  by_cases q3 : checkD p = 0
  case neg =>
    have hz : (checkD p != 0) = true := by simpa using q3
    have hz2 : (checkD p == 0) = false := by simpa using q3
    clear q0 q1 q2 q3
    go_enter Try.func8, Try.ntmps8
    go_wp2_with (fail)
    refine (lives5_any _).mono ?_
    rintro e w1 ⟨rfl, hg⟩
    have hP := hP.bel hg
    have hQ := hQ.bel hg
    have hb := hb.trans' hg
    clear hg
    obtain ⟨c0, c1, c2, c3, c4, c5, c6, c7, c8, c9, c10⟩ := hP.cells
    go_wp2_with (fail)
    refine (hLp.out _).mono ?_
    rintro e w2 ⟨rfl, hg⟩
    have hP := hP.bel hg
    have hQ := hQ.bel hg
    have hb := hb.trans' hg
    clear hg
    clear c0 c1 c2 c3 c4 c5 c6 c7 c8 c9 c10
    obtain ⟨c0, c1, c2, c3, c4, c5, c6, c7, c8, c9, c10⟩ := hQ.cells
    go_wp2_with (fail)
    refine (hLq.out _).mono ?_
    rintro e w3 ⟨rfl, hg⟩
    have hP := hP.bel hg
    have hQ := hQ.bel hg
    have hb := hb.trans' hg
    clear hg
    clear c0 c1 c2 c3 c4 c5 c6 c7 c8 c9 c10
    go_wp2_with (fail)
    refine (hLl.out _ hb).mono ?_
    rintro e w4 ⟨rfl, hg⟩
    have hP := hP.bel hg
    have hQ := hQ.bel hg
    have hb := hb.trans' hg
    clear hg
    obtain ⟨c0, c1, c2, c3, c4, c5, c6, c7, c8, c9, c10⟩ := hP.cells
    go_wp2_with (fail)
    refine (hKp.out _).mono ?_
    rintro e w5 ⟨rfl, hg⟩
    have hP := hP.bel hg
    have hQ := hQ.bel hg
    have hb := hb.trans' hg
    clear hg
    clear c0 c1 c2 c3 c4 c5 c6 c7 c8 c9 c10
    obtain ⟨c0, c1, c2, c3, c4, c5, c6, c7, c8, c9, c10⟩ := hQ.cells
    go_wp2
    go_ret
    exact ⟨rfl, hb⟩
  rw [q3] at hKp
  by_cases q4 : checkD q = 0
  case neg =>
    have hz : (checkD q != 0) = true := by simpa using q4
    have hz2 : (checkD q == 0) = false := by simpa using q4
    clear q0 q1 q2 q3 q4
    go_enter Try.func8, Try.ntmps8
    go_wp2_with (fail)
    refine (lives5_any _).mono ?_
    rintro e w1 ⟨rfl, hg⟩
    have hP := hP.bel hg
    have hQ := hQ.bel hg
    have hb := hb.trans' hg
    clear hg
    obtain ⟨c0, c1, c2, c3, c4, c5, c6, c7, c8, c9, c10⟩ := hP.cells
    go_wp2_with (fail)
    refine (hLp.out _).mono ?_
    rintro e w2 ⟨rfl, hg⟩
    have hP := hP.bel hg
    have hQ := hQ.bel hg
    have hb := hb.trans' hg
    clear hg
    clear c0 c1 c2 c3 c4 c5 c6 c7 c8 c9 c10
    obtain ⟨c0, c1, c2, c3, c4, c5, c6, c7, c8, c9, c10⟩ := hQ.cells
    go_wp2_with (fail)
    refine (hLq.out _).mono ?_
    rintro e w3 ⟨rfl, hg⟩
    have hP := hP.bel hg
    have hQ := hQ.bel hg
    have hb := hb.trans' hg
    clear hg
    clear c0 c1 c2 c3 c4 c5 c6 c7 c8 c9 c10
    go_wp2_with (fail)
    refine (hLl.out _ hb).mono ?_
    rintro e w4 ⟨rfl, hg⟩
    have hP := hP.bel hg
    have hQ := hQ.bel hg
    have hb := hb.trans' hg
    clear hg
    obtain ⟨c0, c1, c2, c3, c4, c5, c6, c7, c8, c9, c10⟩ := hP.cells
    go_wp2_with (fail)
    refine (hKp.out _).mono ?_
    rintro e w5 ⟨rfl, hg⟩
    have hP := hP.bel hg
    have hQ := hQ.bel hg
    have hb := hb.trans' hg
    clear hg
    clear c0 c1 c2 c3 c4 c5 c6 c7 c8 c9 c10
    obtain ⟨c0, c1, c2, c3, c4, c5, c6, c7, c8, c9, c10⟩ := hQ.cells
    go_wp2_with (fail)
    refine (hKq.out _).mono ?_
    rintro e w6 ⟨rfl, hg⟩
    have hP := hP.bel hg
    have hQ := hQ.bel hg
    have hb := hb.trans' hg
    clear hg
    clear c0 c1 c2 c3 c4 c5 c6 c7 c8 c9 c10
    obtain ⟨c0, c1, c2, c3, c4, c5, c6, c7, c8, c9, c10⟩ := hP.cells
    obtain ⟨d0, d1, d2, d3, d4, d5, d6, d7, d8, d9, d10⟩ := hQ.cells
    go_wp2
    go_ret
    exact ⟨rfl, hb⟩
  rw [q4] at hKq
  have hl40 : l.length ≤ 40 := by
    have := q2
    unfold lightAs at this
    simp only [Bool.and_eq_true, decide_eq_true_eq] at this
    omega
  have HCK := Lib.hid (And.intro q3 q4)
  clear q0 q1 q2 q3 q4
  go_enter Try.func8, Try.ntmps8
  go_wp2_with (fail)
  refine (lives5_any _).mono ?_
  rintro e w1 ⟨rfl, hg⟩
  have hP := hP.bel hg
  have hQ := hQ.bel hg
  have hb := hb.trans' hg
  clear hg
  obtain ⟨c0, c1, c2, c3, c4, c5, c6, c7, c8, c9, c10⟩ := hP.cells
  go_wp2_with (fail)
  refine (hLp.out _).mono ?_
  rintro e w2 ⟨rfl, hg⟩
  have hP := hP.bel hg
  have hQ := hQ.bel hg
  have hb := hb.trans' hg
  clear hg
  clear c0 c1 c2 c3 c4 c5 c6 c7 c8 c9 c10
  obtain ⟨c0, c1, c2, c3, c4, c5, c6, c7, c8, c9, c10⟩ := hQ.cells
  go_wp2_with (fail)
  refine (hLq.out _).mono ?_
  rintro e w3 ⟨rfl, hg⟩
  have hP := hP.bel hg
  have hQ := hQ.bel hg
  have hb := hb.trans' hg
  clear hg
  clear c0 c1 c2 c3 c4 c5 c6 c7 c8 c9 c10
  go_wp2_with (fail)
  refine (hLl.out _ hb).mono ?_
  rintro e w4 ⟨rfl, hg⟩
  have hP := hP.bel hg
  have hQ := hQ.bel hg
  have hb := hb.trans' hg
  clear hg
  obtain ⟨c0, c1, c2, c3, c4, c5, c6, c7, c8, c9, c10⟩ := hP.cells
  go_wp2_with (fail)
  refine (hKp.out _).mono ?_
  rintro e w5 ⟨rfl, hg⟩
  have hP := hP.bel hg
  have hQ := hQ.bel hg
  have hb := hb.trans' hg
  clear hg
  clear c0 c1 c2 c3 c4 c5 c6 c7 c8 c9 c10
  obtain ⟨c0, c1, c2, c3, c4, c5, c6, c7, c8, c9, c10⟩ := hQ.cells
  go_wp2_with (fail)
  refine (hKq.out _).mono ?_
  rintro e w6 ⟨rfl, hg⟩
  have hP := hP.bel hg
  have hQ := hQ.bel hg
  have hb := hb.trans' hg
  clear hg
  clear c0 c1 c2 c3 c4 c5 c6 c7 c8 c9 c10
  obtain ⟨c0, c1, c2, c3, c4, c5, c6, c7, c8, c9, c10⟩ := hP.cells
  obtain ⟨d0, d1, d2, d3, d4, d5, d6, d7, d8, d9, d10⟩ := hQ.cells
  go_wp2
  clear c0 c1 c2 c3 c4 c5 c6 c7 c8 c9 c10
  clear d0 d1 d2 d3 d4 d5 d6 d7 d8 d9 d10
  have HP := Lib.hid hP
  have HQ := Lib.hid hQ
  have HB := Lib.hid hb
  clear hP hQ hb hLl hLp hLq hKp hKq
  have HLw := Lib.hid (HL.out.bel HB.out)
  go_loopw [7] (fun i wr => ∃ k : Nat, k ≤ l.length ∧ i = .int .i64 k ∧ RowKit.Hid (Bel w6 wr ∧ ∀ j (h : j < l.length), j < k → checkD l[j] = 0)) (fun i _ => l.length - (intOf i).toNat)
  case atStart => exact ⟨0, Nat.zero_le _, rfl, Lib.hid ⟨Below.refl _ _, fun j _ h => by omega⟩⟩
  case round =>
    obtain ⟨k, hk, rfl, H⟩ := hrel
    have HW := Lib.hid H.out.1
    have HU := Lib.hid H.out.2
    clear H
    by_cases hlt : k < l.length
    · obtain ⟨b, o, rfl, hbb, hc⟩ := al_get (HLw.out.bel HW.out) (by omega)
      obtain ⟨c0, c1, c2, c3, c4, c5, c6, c7, c8, c9, c10⟩ := hc k hlt
      have hq : (0 : Int) ≤ k := by omega
      have hq2 : (k : Int) < l.length := by omega
      have hkx := HLK.out _ (List.getElem_mem hlt)
      have HS : RowKit.Hid (checkD l[k] = 0 → ∀ j (h : j < l.length), j < k + 1 → checkD l[j] = 0) := Lib.hid (fun h0 j hj hjk => by
        by_cases e : j = k
        · subst e; exact h0
        · exact HU.out j hj (by omega))
      clear hc hbb
      generalize l[k] = x at c0 c1 c2 c3 c4 c5 c6 c7 c8 c9 c10 HS hkx
      have hKx := Lib.hid (fun W => rCheck_any x W hkx)
      by_cases hx : checkD x = 0
      · rw [hx] at hKx
        have HN := Lib.hid (HS.out hx)
        clear hx HS
        go_wp2_with (go_at_call 22; refine (hKx.out _).mono ?_; rintro e w31 ⟨rfl, hg⟩; have HG := Lib.hid (HW.out.trans' hg); clear hg)
        go_roundw
        case rel => exact ⟨k + 1, by omega, by go_num, Lib.hid ⟨HG.out, HN.out⟩⟩
        case measure => simp [intOf]; omega
      · have hz : (checkD x != 0) = true := by simpa using hx
        have hz2 : (checkD x == 0) = false := by simpa using hx
        clear hx HS
        go_wp2_with (go_at_call 22; refine (hKx.out _).mono ?_; rintro e w31 ⟨rfl, hg⟩; have HG := Lib.hid (HW.out.trans' hg); clear hg)
        go_ret
        exact ⟨rfl, HB.out.trans' HG.out⟩
    · obtain rfl : k = l.length := by omega
      have HCL : RowKit.Hid (∀ x ∈ l, checkD x = 0) := Lib.hid (fun x hx => by
        obtain ⟨j, hj, rfl⟩ := List.getElem_of_mem hx
        exact HU.out j hj hj)
      have HLr := Lib.hid (HLw.out.bel HW.out)
      have hP := HP.out.bel HW.out
      have hQ := HQ.out.bel HW.out
      have hb := Lib.hid (HB.out.trans' HW.out)
      have hd : Bel wr wr.drew := bel_drew' (Below.refl _ _)
      have hOw := Lib.hid (fun W (hg : Bel wr W) => ownA_any A l l.length ca rfl W (HLr.out.bel hg) (by omega))
      obtain ⟨c0, c1, c2, c3, c4, c5, c6, c7, c8, c9, c10⟩ := hP.cells
      obtain ⟨d0, d1, d2, d3, d4, d5, d6, d7, d8, d9, d10⟩ := hQ.cells
      have hP := hP.drew
      have hQ := hQ.drew
      have tk1 : True := trivial
      clear hk hlt
      go_wp2
      go_region_held3 (fun w' => (w'.cell? ⟨w.heap.size, 0, none⟩ = some (.string p.says) ∧ w'.cell? ⟨w.heap.size, 1, none⟩ = some (.string p.pred) ∧ w'.cell? ⟨w.heap.size, 2, none⟩ = some (.int .i64 p.n) ∧ w'.cell? ⟨w.heap.size, 3, none⟩ = some (.bool p.t0.v) ∧ w'.cell? ⟨w.heap.size, 4, none⟩ = some (.string p.t0.name) ∧ w'.cell? ⟨w.heap.size, 5, none⟩ = some (.bool p.t1.v) ∧ w'.cell? ⟨w.heap.size, 6, none⟩ = some (.string p.t1.name) ∧ w'.cell? ⟨w.heap.size, 7, none⟩ = some (.bool p.t2.v) ∧ w'.cell? ⟨w.heap.size, 8, none⟩ = some (.string p.t2.name) ∧ w'.cell? ⟨w.heap.size, 9, none⟩ = some (.bool p.t3.v) ∧ w'.cell? ⟨w.heap.size, 10, none⟩ = some (.string p.t3.name)) ∧ (w'.cell? ⟨w.heap.size + 1, 0, none⟩ = some (.string q.says) ∧ w'.cell? ⟨w.heap.size + 1, 1, none⟩ = some (.string q.pred) ∧ w'.cell? ⟨w.heap.size + 1, 2, none⟩ = some (.int .i64 q.n) ∧ w'.cell? ⟨w.heap.size + 1, 3, none⟩ = some (.bool q.t0.v) ∧ w'.cell? ⟨w.heap.size + 1, 4, none⟩ = some (.string q.t0.name) ∧ w'.cell? ⟨w.heap.size + 1, 5, none⟩ = some (.bool q.t1.v) ∧ w'.cell? ⟨w.heap.size + 1, 6, none⟩ = some (.string q.t1.name) ∧ w'.cell? ⟨w.heap.size + 1, 7, none⟩ = some (.bool q.t2.v) ∧ w'.cell? ⟨w.heap.size + 1, 8, none⟩ = some (.string q.t2.name) ∧ w'.cell? ⟨w.heap.size + 1, 9, none⟩ = some (.bool q.t3.v) ∧ w'.cell? ⟨w.heap.size + 1, 10, none⟩ = some (.string q.t3.name))) (first | exact ⟨hP.cells, hQ.cells⟩ | go_keep | trivial)
        (first | (go_at_call 44; refine (hOw.out _ hd).mono ?_; rintro e w32 ⟨⟨qo, ko, HOo, rfl⟩, hg⟩; have HOo := Lib.hid (OwnL.slice EA HOo.out); have hP := hP.bel hg; have hQ := hQ.bel hg; have hd := hd.trans' hg; (try have HOx := Lib.hid (HOx.out.bel hg)); clear hg) | (go_at_call 37; have hz := tk1; refine (All_any p qo l l.length ko rfl _ HOo.out (by omega)).mono ?_; rintro e w33 ⟨⟨qx, kx, ox, HXe, HXo, rfl⟩, hg⟩; have HOx := Lib.hid (OwnL.slice EA HXo.out); have hP := hP.bel hg; have hQ := hQ.bel hg; have hd := hd.trans' hg; clear hg tk1 hz) | (go_at_call 37; refine (All_any q qo l l.length ko rfl _ HOo.out (by omega)).mono ?_; rintro e w34 ⟨⟨qy, ky, oy, HYe, HYo, rfl⟩, hg⟩; have HOx := Lib.hid (HOx.out.bel hg); have hP := hP.bel hg; have hQ := hQ.bel hg; have hd := hd.trans' hg; clear hg))
      all_goals
        have HP2 := Lib.hid hP
        have HQ2 := Lib.hid hQ
        have HL2 := Lib.hid (HLr.out.bel hd)
        have HB2 := Lib.hid (hb.out.trans' hd)
        have hox : ox.length ≤ 40 := by rw [HXe.out]; exact Nat.le_trans (List.length_filter_le _ _) hl40
        clear hP hQ hd hOw hb c0 c1 c2 c3 c4 c5 c6 c7 c8 c9 c10 d0 d1 d2 d3 d4 d5 d6 d7 d8 d9 d10 HOo
        go_wp2
        go_loopw [10, 11] (fun s10 i wq => ∃ k : Nat, k ≤ l.length ∧ i = .int .i64 k ∧ s10 = .int .i64 ((l.take k).filter (matchB p)).length ∧ RowKit.Hid (Bel w34 wq)) (fun _ i _ => l.length - (intOf i).toNat)
        case atStart => exact ⟨0, Nat.zero_le _, rfl, rfl, Lib.hid (Below.refl _ _)⟩
        case round =>
          obtain ⟨k, hk, rfl, rfl, HW2⟩ := hrel
          by_cases hlt : k < l.length
          · obtain ⟨b, o, rfl, hbb, hc⟩ := al_get (HL2.out.bel HW2.out) (by omega)
            obtain ⟨c0, c1, c2, c3, c4, c5, c6, c7, c8, c9, c10⟩ := hc k hlt
            have hP := HP2.out.bel HW2.out
            obtain ⟨d0, d1, d2, d3, d4, d5, d6, d7, d8, d9, d10⟩ := hP.cells
            have hq : (0 : Int) ≤ k := by omega
            have hq2 : (k : Int) < l.length := by omega
            have HS := Lib.hid (filter_succ (p := matchB p) (List.getElem?_eq_getElem hlt))
            have HAT : RowKit.Hid (matchB p l[k] = true → ox[((l.take k).filter (matchB p)).length]? = some l[k]) := Lib.hid (fun h => by rw [HXe.out]; exact filter_at (List.getElem?_eq_getElem hlt) h)
            have hI : ItemsAt encA 11 wr (some ⟨b, o, none⟩) l := (HL2.out.bel HW2.out).items
            have hIX : RowKit.Hid (∀ W, Bel wr W → ∀ j u, (encA l[k])[j]? = some u → W.cell? ⟨b, o + k * 11 + j, none⟩ = some u) := Lib.hid (fun W hg j u hu => by
              obtain ⟨b', o', e, _, h1⟩ := hI k hlt
              injection e with e
              injection e with e1 e2
              subst e1 e2
              exact cell_bel (h1 j u hu) hg)
            clear hc hI hbb
            generalize l[k] = x at c0 c1 c2 c3 c4 c5 c6 c7 c8 c9 c10 HS HAT hIX
            obtain ⟨n0, hn0⟩ : ∃ n0, n0 = ((l.take k).filter (matchB p)).length := ⟨_, rfl⟩
            rw [← hn0] at HAT ⊢
            have HN0 := Lib.hid hn0
            clear hn0
            have hM := Lib.hid (fun W => Match_any p x W)
            have hd : Bel wr wr.drew := bel_drew' (Below.refl _ _)
            have hP := hP.drew
            have hCX : ∀ W, Bel wr W → W.cell? ⟨b, o + k * 11, none⟩ = some (.string x.says) ∧ W.cell? ⟨b, o + k * 11 + 1, none⟩ = some (.string x.pred) ∧ W.cell? ⟨b, o + k * 11 + 2, none⟩ = some (.int .i64 x.n) ∧ W.cell? ⟨b, o + k * 11 + 3, none⟩ = some (.bool x.t0.v) ∧ W.cell? ⟨b, o + k * 11 + 4, none⟩ = some (.string x.t0.name) ∧ W.cell? ⟨b, o + k * 11 + 5, none⟩ = some (.bool x.t1.v) ∧ W.cell? ⟨b, o + k * 11 + 6, none⟩ = some (.string x.t1.name) ∧ W.cell? ⟨b, o + k * 11 + 7, none⟩ = some (.bool x.t2.v) ∧ W.cell? ⟨b, o + k * 11 + 8, none⟩ = some (.string x.t2.name) ∧ W.cell? ⟨b, o + k * 11 + 9, none⟩ = some (.bool x.t3.v) ∧ W.cell? ⟨b, o + k * 11 + 10, none⟩ = some (.string x.t3.name) := fun W hg => ⟨hIX.out W hg 0 _ rfl, hIX.out W hg 1 _ rfl, hIX.out W hg 2 _ rfl, hIX.out W hg 3 _ rfl, hIX.out W hg 4 _ rfl, hIX.out W hg 5 _ rfl, hIX.out W hg 6 _ rfl, hIX.out W hg 7 _ rfl, hIX.out W hg 8 _ rfl, hIX.out W hg 9 _ rfl, hIX.out W hg 10 _ rfl⟩
            have HCX := Lib.hid hCX
            clear hCX hIX
            go_wp2
            go_region_held3 (fun w' => (w'.cell? ⟨w.heap.size, 0, none⟩ = some (.string p.says) ∧ w'.cell? ⟨w.heap.size, 1, none⟩ = some (.string p.pred) ∧ w'.cell? ⟨w.heap.size, 2, none⟩ = some (.int .i64 p.n) ∧ w'.cell? ⟨w.heap.size, 3, none⟩ = some (.bool p.t0.v) ∧ w'.cell? ⟨w.heap.size, 4, none⟩ = some (.string p.t0.name) ∧ w'.cell? ⟨w.heap.size, 5, none⟩ = some (.bool p.t1.v) ∧ w'.cell? ⟨w.heap.size, 6, none⟩ = some (.string p.t1.name) ∧ w'.cell? ⟨w.heap.size, 7, none⟩ = some (.bool p.t2.v) ∧ w'.cell? ⟨w.heap.size, 8, none⟩ = some (.string p.t2.name) ∧ w'.cell? ⟨w.heap.size, 9, none⟩ = some (.bool p.t3.v) ∧ w'.cell? ⟨w.heap.size, 10, none⟩ = some (.string p.t3.name)) ∧ (w'.cell? ⟨b, o + k * 11, none⟩ = some (.string x.says) ∧ w'.cell? ⟨b, o + k * 11 + 1, none⟩ = some (.string x.pred) ∧ w'.cell? ⟨b, o + k * 11 + 2, none⟩ = some (.int .i64 x.n) ∧ w'.cell? ⟨b, o + k * 11 + 3, none⟩ = some (.bool x.t0.v) ∧ w'.cell? ⟨b, o + k * 11 + 4, none⟩ = some (.string x.t0.name) ∧ w'.cell? ⟨b, o + k * 11 + 5, none⟩ = some (.bool x.t1.v) ∧ w'.cell? ⟨b, o + k * 11 + 6, none⟩ = some (.string x.t1.name) ∧ w'.cell? ⟨b, o + k * 11 + 7, none⟩ = some (.bool x.t2.v) ∧ w'.cell? ⟨b, o + k * 11 + 8, none⟩ = some (.string x.t2.name) ∧ w'.cell? ⟨b, o + k * 11 + 9, none⟩ = some (.bool x.t3.v) ∧ w'.cell? ⟨b, o + k * 11 + 10, none⟩ = some (.string x.t3.name))) (first | exact ⟨hP.cells, HCX.out _ hd⟩ | go_keep | trivial)
              (first | (go_at_call 33; refine (hM.out _).mono ?_; rintro e w35 ⟨⟨q1, k1, o1, i1, HE1, HO1, rfl⟩, hg⟩; have hP := hP.bel hg; have hd := hd.trans' hg; clear hg))
            all_goals
              have hi1 : i1 = matchB p x := congrArg Prod.snd HE1.out
              clear c0 c1 c2 c3 c4 c5 c6 c7 c8 c9 c10 d0 d1 d2 d3 d4 d5 d6 d7 d8 d9 d10 hM HE1 HO1
              cases i1
              · have HN : RowKit.Hid (((l.take (k + 1)).filter (matchB p)).length = n0) := Lib.hid (by rw [HS.out, ← hi1, HN0.out]; simp)
                have HW3 := Lib.hid (HW2.out.trans' hd)
                clear hi1 hd hP
                go_wp2
                go_roundw
                case rel => exact ⟨k + 1, by omega, by go_num, by rw [HN.out], HW3⟩
                case measure => simp [intOf]; omega
              · have HN : RowKit.Hid (((l.take (k + 1)).filter (matchB p)).length = n0 + 1) := Lib.hid (by rw [HS.out, ← hi1, HN0.out]; simp)
                have hat := HAT.out hi1.symm
                have hgx := match_ground hi1.symm
                obtain ⟨hno, hxo⟩ := List.getElem?_eq_some_iff.1 hat
                have hx0 : (0 : Int) ≤ n0 := by omega
                have hx1 : (n0 : Int) < ox.length := by omega
                have hx2 : ¬ (n0 : Int) ≥ ox.length := by omega
                have hx3 : decide ((ox.length : Int) ≤ (n0 : Int)) = false := decide_eq_false (by omega)
                have hx5 : decide (ox.length ≤ n0) = false := decide_eq_false (by omega)
                have hx4 : decide ((n0 : Int) ≥ (ox.length : Int)) = false := decide_eq_false (by omega)
                obtain ⟨bx, sx, rfl, _, hcx⟩ := al_get ((HOx.out.bel HW2.out).bel hd) (by omega)
                obtain ⟨f0, f1, f2, f3, f4, f5, f6, f7, f8, f9, f10⟩ := hcx n0 hno
                rw [hxo] at f0 f1 f2 f3 f4 f5 f6 f7 f8 f9 f10
                obtain ⟨c0, c1, c2, c3, c4, c5, c6, c7, c8, c9, c10⟩ := HCX.out _ hd
                have hGx := Lib.hid (fun W => rGround_any x W)
                rw [hgx] at hGx
                have hqe := eqA_self x
                have hqn := neq_atom x x
                rw [hqe] at hqn
                have HD := Lib.hid hd
                have hd2 : Bel w35 w35.drew := bel_drew' (Below.refl _ _)
                have HFX : RowKit.Hid (∀ W, Bel w35 W → (W.cell? ⟨bx, sx + n0 * 11, none⟩ = some (.string x.says) ∧ W.cell? ⟨bx, sx + n0 * 11 + 1, none⟩ = some (.string x.pred) ∧ W.cell? ⟨bx, sx + n0 * 11 + 2, none⟩ = some (.int .i64 x.n) ∧ W.cell? ⟨bx, sx + n0 * 11 + 3, none⟩ = some (.bool x.t0.v) ∧ W.cell? ⟨bx, sx + n0 * 11 + 4, none⟩ = some (.string x.t0.name) ∧ W.cell? ⟨bx, sx + n0 * 11 + 5, none⟩ = some (.bool x.t1.v) ∧ W.cell? ⟨bx, sx + n0 * 11 + 6, none⟩ = some (.string x.t1.name) ∧ W.cell? ⟨bx, sx + n0 * 11 + 7, none⟩ = some (.bool x.t2.v) ∧ W.cell? ⟨bx, sx + n0 * 11 + 8, none⟩ = some (.string x.t2.name) ∧ W.cell? ⟨bx, sx + n0 * 11 + 9, none⟩ = some (.bool x.t3.v) ∧ W.cell? ⟨bx, sx + n0 * 11 + 10, none⟩ = some (.string x.t3.name))) := Lib.hid (fun W hg => ⟨cell_bel f0 hg, cell_bel f1 hg, cell_bel f2 hg, cell_bel f3 hg, cell_bel f4 hg, cell_bel f5 hg, cell_bel f6 hg, cell_bel f7 hg, cell_bel f8 hg, cell_bel f9 hg, cell_bel f10 hg⟩)
                have hwn : IntKind.i64.wrap ((n0 : Int) + 1) = (n0 : Int) + 1 := IntWalk.i64_in _ (by omega)
                clear hi1 hat hgx hno hxo hcx hqe hP hd HAT
                go_wp2
                go_region_held3 (fun w' => (w'.cell? ⟨bx, sx + n0 * 11, none⟩ = some (.string x.says) ∧ w'.cell? ⟨bx, sx + n0 * 11 + 1, none⟩ = some (.string x.pred) ∧ w'.cell? ⟨bx, sx + n0 * 11 + 2, none⟩ = some (.int .i64 x.n) ∧ w'.cell? ⟨bx, sx + n0 * 11 + 3, none⟩ = some (.bool x.t0.v) ∧ w'.cell? ⟨bx, sx + n0 * 11 + 4, none⟩ = some (.string x.t0.name) ∧ w'.cell? ⟨bx, sx + n0 * 11 + 5, none⟩ = some (.bool x.t1.v) ∧ w'.cell? ⟨bx, sx + n0 * 11 + 6, none⟩ = some (.string x.t1.name) ∧ w'.cell? ⟨bx, sx + n0 * 11 + 7, none⟩ = some (.bool x.t2.v) ∧ w'.cell? ⟨bx, sx + n0 * 11 + 8, none⟩ = some (.string x.t2.name) ∧ w'.cell? ⟨bx, sx + n0 * 11 + 9, none⟩ = some (.bool x.t3.v) ∧ w'.cell? ⟨bx, sx + n0 * 11 + 10, none⟩ = some (.string x.t3.name)) ∧ (w'.cell? ⟨b, o + k * 11, none⟩ = some (.string x.says) ∧ w'.cell? ⟨b, o + k * 11 + 1, none⟩ = some (.string x.pred) ∧ w'.cell? ⟨b, o + k * 11 + 2, none⟩ = some (.int .i64 x.n) ∧ w'.cell? ⟨b, o + k * 11 + 3, none⟩ = some (.bool x.t0.v) ∧ w'.cell? ⟨b, o + k * 11 + 4, none⟩ = some (.string x.t0.name) ∧ w'.cell? ⟨b, o + k * 11 + 5, none⟩ = some (.bool x.t1.v) ∧ w'.cell? ⟨b, o + k * 11 + 6, none⟩ = some (.string x.t1.name) ∧ w'.cell? ⟨b, o + k * 11 + 7, none⟩ = some (.bool x.t2.v) ∧ w'.cell? ⟨b, o + k * 11 + 8, none⟩ = some (.string x.t2.name) ∧ w'.cell? ⟨b, o + k * 11 + 9, none⟩ = some (.bool x.t3.v) ∧ w'.cell? ⟨b, o + k * 11 + 10, none⟩ = some (.string x.t3.name))) (first | exact ⟨HFX.out _ hd2, HCX.out _ (HD.out.trans' hd2)⟩ | go_keep | trivial)
                  (first | (go_at_call 27; refine (hGx.out _).mono ?_; rintro e w36 ⟨rfl, hg⟩; have hd2 := hd2.trans' hg; clear hg))
                all_goals
                  have HW3 := Lib.hid ((HW2.out.trans' HD.out).trans' hd2)
                  clear c0 c1 c2 c3 c4 c5 c6 c7 c8 c9 c10 f0 f1 f2 f3 f4 f5 f6 f7 f8 f9 f10 hqn hGx
                  go_wp2
                  go_roundw
                  case rel => exact ⟨k + 1, by omega, by go_num, by rw [HN.out]; go_num, HW3⟩
                  case measure => simp [intOf]; omega
          · obtain rfl : k = l.length := by omega
            have hlen : ((l.take l.length).filter (matchB p)).length = ox.length := by rw [List.take_length, HXe.out]
            rw [hlen]
            have hP := HP2.out.bel HW2.out
            have hQ := HQ2.out.bel HW2.out
            have HOx := Lib.hid (HOx.out.bel HW2.out)
            have hb := HB2.out.trans' HW2.out
            have HXX : RowKit.Hid (ox.filter (matchB p) = ox) := Lib.hid (by rw [HXe.out]; exact filter_twice _ _)
            have hUn := Lib.hid (fun W => Under_any p q W)
            have hxx : ((ox.length : Int) == (ox.length : Int)) = true := by simp
            obtain ⟨c0, c1, c2, c3, c4, c5, c6, c7, c8, c9, c10⟩ := hP.cells
            clear hlen hk hlt HXo HYo
            cases hu : underD p q
            · rw [hu] at hUn
              clear hu
              go_wp2_with (fail)
              refine (All_any p qx ox ox.length kx rfl _ HOx.out (by omega)).mono ?_
              rintro e w37 ⟨⟨q2, k2, o2, HE2, HO2, rfl⟩, hg⟩
              obtain rfl : o2 = ox := HE2.out.trans HXX.out
              have HO2 := Lib.hid (OwnL.slice EA HO2.out)
              have HOx := Lib.hid (HOx.out.bel hg)
              have hP := hP.bel hg
              have hQ := hQ.bel hg
              have hb := hb.trans' hg
              clear hg
              go_wp2_with (fail)
              refine (sameA_any q2 o2 o2.length k2 rfl qx o2.length kx rfl _ HO2.out HOx.out (by omega)).mono ?_
              rintro e w38 ⟨rfl, hg⟩
              have hP := hP.bel hg
              have hQ := hQ.bel hg
              have hb := hb.trans' hg
              clear hg c0 c1 c2 c3 c4 c5 c6 c7 c8 c9 c10
              obtain ⟨c0, c1, c2, c3, c4, c5, c6, c7, c8, c9, c10⟩ := hP.cells
              obtain ⟨d0, d1, d2, d3, d4, d5, d6, d7, d8, d9, d10⟩ := hQ.cells
              go_wp2_with (fail)
              refine (hUn.out _).mono ?_
              rintro e w39 ⟨rfl, hg⟩
              have hb := hb.trans' hg
              clear hg
              go_wp2
              go_ret
              exact ⟨rfl, hb⟩
            · rw [hu] at hUn
              have hin := filter_in (f := matchB p) (g := matchB q) (l := l) (fun x hx => match_under HCK.out.1 HCK.out.2 (HCL.out x hx) hu)
              have HXQ : RowKit.Hid (ox.filter (matchB q) = ox) := Lib.hid (by rw [HXe.out]; exact hin.2)
              have hyl : (oy.length : Int) ≥ (ox.length : Int) := by rw [HYe.out, HXe.out]; have := hin.1; omega
              have hyl2 : decide ((ox.length : Int) ≤ (oy.length : Int)) = true := decide_eq_true (by omega)
              have hyl4 : decide (ox.length ≤ oy.length) = true := decide_eq_true (by omega)
              have hyl3 : decide ((oy.length : Int) ≥ (ox.length : Int)) = true := decide_eq_true (by omega)
              clear hu hin
              go_wp2_with (fail)
              refine (All_any p qx ox ox.length kx rfl _ HOx.out (by omega)).mono ?_
              rintro e w37 ⟨⟨q2, k2, o2, HE2, HO2, rfl⟩, hg⟩
              obtain rfl : o2 = ox := HE2.out.trans HXX.out
              have HO2 := Lib.hid (OwnL.slice EA HO2.out)
              have HOx := Lib.hid (HOx.out.bel hg)
              have hP := hP.bel hg
              have hQ := hQ.bel hg
              have hb := hb.trans' hg
              clear hg
              go_wp2_with (fail)
              refine (sameA_any q2 o2 o2.length k2 rfl qx o2.length kx rfl _ HO2.out HOx.out (by omega)).mono ?_
              rintro e w38 ⟨rfl, hg⟩
              have HOx := Lib.hid (HOx.out.bel hg)
              have hP := hP.bel hg
              have hQ := hQ.bel hg
              have hb := hb.trans' hg
              clear hg c0 c1 c2 c3 c4 c5 c6 c7 c8 c9 c10
              obtain ⟨c0, c1, c2, c3, c4, c5, c6, c7, c8, c9, c10⟩ := hP.cells
              obtain ⟨d0, d1, d2, d3, d4, d5, d6, d7, d8, d9, d10⟩ := hQ.cells
              go_wp2_with (fail)
              refine (hUn.out _).mono ?_
              rintro e w39 ⟨rfl, hg⟩
              have HOx := Lib.hid (HOx.out.bel hg)
              have hQ := hQ.bel hg
              have hb := hb.trans' hg
              clear hg c0 c1 c2 c3 c4 c5 c6 c7 c8 c9 c10 d0 d1 d2 d3 d4 d5 d6 d7 d8 d9 d10
              obtain ⟨d0, d1, d2, d3, d4, d5, d6, d7, d8, d9, d10⟩ := hQ.cells
              go_wp2_with (fail)
              refine (All_any q qx o2 o2.length kx rfl _ HOx.out (by omega)).mono ?_
              rintro e w40 ⟨⟨q3, k3, o3, HE3, HO3, rfl⟩, hg⟩
              obtain rfl : o3 = o2 := HE3.out.trans HXQ.out
              have HO3 := Lib.hid (OwnL.slice EA HO3.out)
              have HOx := Lib.hid (HOx.out.bel hg)
              have hb := hb.trans' hg
              clear hg
              go_wp2_with (fail)
              refine (sameA_any q3 o3 o3.length k3 rfl qx o3.length kx rfl _ HO3.out HOx.out (by omega)).mono ?_
              rintro e w41 ⟨rfl, hg⟩
              have hb := hb.trans' hg
              clear hg
              go_wp2
              go_ret
              exact ⟨rfl, hb⟩
end Go.Proofs.Ytlbollmmomheoaa
