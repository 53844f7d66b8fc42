/-
  An atom under bindings. Conditions: as each says.
-/
import Derived.Test.YtdmdefdiglpgaaaSbH
namespace Go.Proofs.Ytdmdefdiglpgaaa
open Go.RowKit

def appK (l : List BindD) (a : AtomD) (k : Nat) : AtomD :=
  ⟨a.says, a.pred, a.n, if 0 < k then subT l a.t0 else a.t0, if 1 < k then subT l a.t1 else a.t1, if 2 < k then subT l a.t2 else a.t2, if 3 < k then subT l a.t3 else a.t3⟩
theorem appK_all (l : List BindD) (a : AtomD) : appK l a (cntI a.n) = applyA l a := rfl
theorem appK_zero (l : List BindD) (a : AtomD) : appK l a 0 = a := rfl
theorem appK_step (l : List BindD) (a : AtomD) (k : Nat) (hk : k < 4) (t : TermD) (ht : (argsD a)[k]? = some t) : (argsD (appK l a k))[k]? = some t ∧ setArg (appK l a k) k (subT l t) = appK l a (k + 1) := by
  obtain rfl | rfl | rfl | rfl : k = 0 ∨ k = 1 ∨ k = 2 ∨ k = 3 := by omega
  all_goals
    simp only [argsD, List.getElem?_cons_zero, List.getElem?_cons_succ, Option.some.injEq] at ht
    subst ht
    exact ⟨rfl, rfl⟩
theorem args_some (a : AtomD) (k : Nat) (hk : k < 4) : ∃ t, (argsD a)[k]? = some t := ⟨_, List.getElem?_eq_getElem (by exact hk)⟩
theorem min_le (n : Int) (k : Nat) : (k : Int) < min n 4 ↔ k < cntI n := by unfold cntI; omega

set_option maxRecDepth 20000 in
set_option maxHeartbeats 4000000 in
theorem Apply_any (A : Option Addr) (l : List BindD) (ca : Nat) (a : AtomD) (w : World) (hL : BL w A ca l) (hl : l.length ≤ 1000000) :
    Calls Try.prog 29 #[.slice A l.length ca, .agg #[.string a.says, .string a.pred, .int .i64 a.n, .bool a.t0.v, .string a.t0.name, .bool a.t1.v, .string a.t1.name, .bool a.t2.v, .string a.t2.name, .bool a.t3.v, .string a.t3.name]] w fun e w' => (∃ q, RowKit.Hid (q = applyA l a) ∧ e = .returned (.agg #[.string q.says, .string q.pred, .int .i64 q.n, .bool q.t0.v, .string q.t0.name, .bool q.t1.v, .string q.t1.name, .bool q.t2.v, .string q.t2.name, .bool q.t3.v, .string q.t3.name])) ∧ Bel w w' := by
  have HL := Lib.hid hL
  clear hL
  have g1 := bel_alloc w (.cells #[.string a.says, .string a.pred, .int .i64 a.n, .bool a.t0.v, .string a.t0.name, .bool a.t1.v, .string a.t1.name, .bool a.t2.v, .string a.t2.name, .bool a.t3.v, .string a.t3.name] 43)
  have hA := AtomAt.new w a
  have g2 := bel_alloc (w.alloc (.cells #[.string a.says, .string a.pred, .int .i64 a.n, .bool a.t0.v, .string a.t0.name, .bool a.t1.v, .string a.t1.name, .bool a.t2.v, .string a.t2.name, .bool a.t3.v, .string a.t3.name] 43)) (.cells #[.string zeroA.says, .string zeroA.pred, .int .i64 zeroA.n, .bool zeroA.t0.v, .string zeroA.t0.name, .bool zeroA.t1.v, .string zeroA.t1.name, .bool zeroA.t2.v, .string zeroA.t2.name, .bool zeroA.t3.v, .string zeroA.t3.name] 43)
  have hZ := AtomAt.new (w.alloc (.cells #[.string a.says, .string a.pred, .int .i64 a.n, .bool a.t0.v, .string a.t0.name, .bool a.t1.v, .string a.t1.name, .bool a.t2.v, .string a.t2.name, .bool a.t3.v, .string a.t3.name] 43)) zeroA
  rw [show (w.alloc (.cells #[.string a.says, .string a.pred, .int .i64 a.n, .bool a.t0.v, .string a.t0.name, .bool a.t1.v, .string a.t1.name, .bool a.t2.v, .string a.t2.name, .bool a.t3.v, .string a.t3.name] 43)).heap.size = w.heap.size + 1 by simp] at hZ
  have hA := hA.bel g2
  have hb := g1.trans' g2
  obtain ⟨d0, d1, d2, _⟩ := hA.cells
  simp only [zeroA, zeroT] at hb hA d0 d1 d2
  have HB0 := Lib.hid hb
  have HA0 := Lib.hid hA
  have HZ0 := Lib.hid hZ
  have hc4 := cntI_le a.n
  clear g1 g2 hb hA hZ
  have hmin := min_le a.n
  generalize hcc : cntI a.n = c at hc4 hmin
  have HC := Lib.hid hcc
  clear hcc
  obtain ⟨mn, hmn⟩ : ∃ mn, mn = min a.n 4 := ⟨_, rfl⟩
  rw [← hmn] at hmin
  have HM := Lib.hid hmn
  go_enter Try.func29, Try.ntmps29
  go_wp2
  simp only [← hmn]
  clear hmn
  go_loopw [9] (fun i wr => ∃ k : Nat, k ≤ c ∧ i = .int .i64 k ∧ RowKit.Hid (Bel w wr ∧ AtomAt wr w.heap.size (appK l a k) ∧ AtomAt wr (w.heap.size + 1) zeroA)) (fun i _ => c - (intOf i).toNat)
  case atStart => exact ⟨0, Nat.zero_le _, rfl, Lib.hid ⟨HB0.out, HA0.out, HZ0.out⟩⟩
  case round =>
    obtain ⟨k, hk, rfl, H⟩ := hrel
    clear HB0 HA0 HZ0 d0 d1 d2
    have hA := H.out.2.1
    have hb := H.out.1
    have hZ := H.out.2.2
    clear H
    have hlt2 : w.heap.size < w.heap.size + 1 := by omega
    by_cases hlt : k < c
    · have hk4 : k < 4 := by omega
      have hq : (0 : Int) ≤ k := by omega
      have hq1 : (k : Int) < 4 := by omega
      have hq2 : (k : Int) < mn := (hmin k).2 hlt
      obtain ⟨t, ht⟩ := args_some a k hk4
      obtain ⟨e1, e2⟩ := appK_step l a k hk4 t ht
      have HS := Lib.hid e2
      obtain ⟨_, _, e3, _, c1, c2⟩ := hA.terms k (by exact hk4)
      injection e3 with e3
      injection e3 with e3 e4
      subst e3 e4
      have e5 : (argsD (appK l a k))[k]'(by exact hk4) = t := by
        rw [List.getElem?_eq_getElem (by exact hk4)] at e1
        injection e1
      rw [e5] at c1 c2
      clear e1 e2 e5 ht
      have hT := Lib.hid (Term_any A l ca t wr (HL.out.bel hb) hl)
      obtain ⟨tv, ts⟩ := t
      simp only at c1 c2
      go_wp2_with (first | (go_at_call 17; refine hT.out.mono ?_; rintro e w1 ⟨⟨u, HU, rfl⟩, hg⟩; have hA := hA.bel hg; have hZ := hZ.bel hg; have hb := hb.trans' hg; clear hg) | ((with_reducible refine wpList_store_arg ?_ (.tmp 20) (.tmp 18) ?_ w.heap.size k u ?_ ?_ hA hk4 ?_); rfl; rfl; rfl; rfl; intro w3 hA3 hb3 ho3))
      go_roundw
      case rel =>
        refine ⟨k + 1, by omega, by go_num, Lib.hid ⟨hb.trans hb3, ?_, (ho3 _ (by omega)).trans hZ⟩⟩
        rw [← HS.out, ← HU.out]; exact hA3
      case measure => simp [intOf]; omega
    · obtain rfl : k = c := by omega
      have hq2 : ¬ (k : Int) < mn := fun h => hlt ((hmin k).1 h)
      have HQ : RowKit.Hid (appK l a k = applyA l a) := Lib.hid (by rw [← HC.out]; rfl)
      obtain ⟨q, hq⟩ : ∃ q, q = appK l a k := ⟨_, rfl⟩
      rw [← hq] at hA
      have HQ2 := Lib.hid (hq.trans HQ.out)
      clear hq HQ
      obtain ⟨f0, f1, f2, f3, f4, f5, f6, f7, f8, f9, f10⟩ := hA.cells
      go_wp2_with ((with_reducible refine wpList_store_atom ?_ (.tmp 4) (.tmp 22) ?_ (w.heap.size + 1) q ?_ ?_ hZ ?_); rfl; rfl; rfl; rfl; intro w3 hR hb3 _; have hb := hb.trans (hb3.mono (Nat.le_succ _)); clear hb3)
      try simp only [Exit.inBlock, Exit.then]
      refine bodyPost_ret (results_atom rfl _ _ _ _ rfl hR) rfl ?_
      exact ⟨⟨_, HQ2, rfl⟩, hb⟩
end Go.Proofs.Ytdmdefdiglpgaaa
