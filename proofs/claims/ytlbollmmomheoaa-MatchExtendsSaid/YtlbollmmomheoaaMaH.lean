/-
  The law MatchExtends for every input. Conditions: what came in lies as its parameters' types say.
-/
import Derived.Test.YtlbollmmomheoaaMaG
namespace Go.Proofs.Ytlbollmmomheoaa
open Go.RowKit

theorem extR_nil {l : List BindD} {p g : AtomD} {m : List BindD} (h : (m, false) = extR l p g) : m = [] ∧ extD l p g = none := by
  unfold extR at h
  obtain ⟨h1, h2⟩ := Prod.mk.inj h
  cases e : extD l p g with
  | none => rw [e] at h1; exact ⟨h1, rfl⟩
  | some n => rw [e] at h2; cases h2
theorem extR_ofl {l : List BindD} {p g : AtomD} {m : List BindD} (h : (m, true) = extR l p g) : extD l p g = some m := by
  unfold extR at h
  obtain ⟨h1, h2⟩ := Prod.mk.inj h
  cases e : extD l p g with
  | none => rw [e] at h2; cases h2
  | some n => rw [e] at h1; exact congrArg some h1.symm
theorem agree_step {l m : List BindD} {k : Nat} {x : BindD} (h : m[k]? = some x) : agreeL l (m.take (k + 1)) = (agreeL l (m.take k) && agreeB l x) := by
  unfold agreeL
  rw [List.take_add_one, h, List.all_append]
  simp
set_option maxRecDepth 20000 in
set_option maxHeartbeats 16000000 in
theorem lawMatchExtends (p q g h : AtomD) (w : World) (hpk : AtomOk p) (hqk : AtomOk q) (hgk : AtomOk g) (hhk : AtomOk h) :
    Calls Try.prog 7 #[.agg #[.string p.says, .string p.pred, .int .i64 p.n, .bool p.t0.v, .string p.t0.name, .bool p.t1.v, .string p.t1.name, .bool p.t2.v, .string p.t2.name, .bool p.t3.v, .string p.t3.name], .agg #[.string q.says, .string q.pred, .int .i64 q.n, .bool q.t0.v, .string q.t0.name, .bool q.t1.v, .string q.t1.name, .bool q.t2.v, .string q.t2.name, .bool q.t3.v, .string q.t3.name], .agg #[.string g.says, .string g.pred, .int .i64 g.n, .bool g.t0.v, .string g.t0.name, .bool g.t1.v, .string g.t1.name, .bool g.t2.v, .string g.t2.name, .bool g.t3.v, .string g.t3.name], .agg #[.string h.says, .string h.pred, .int .i64 h.n, .bool h.t0.v, .string h.t0.name, .bool h.t1.v, .string h.t1.name, .bool h.t2.v, .string h.t2.name, .bool h.t3.v, .string h.t3.name]] w fun e w' => e = .returned (.bool true) ∧ Bel w w' := by
  have hP := AtomAt.new w p
  have hP := hP.bel (bel_alloc (w.alloc (.cells #[.string p.says, .string p.pred, .int .i64 p.n, .bool p.t0.v, .string p.t0.name, .bool p.t1.v, .string p.t1.name, .bool p.t2.v, .string p.t2.name, .bool p.t3.v, .string p.t3.name] 43)) (.cells #[.string q.says, .string q.pred, .int .i64 q.n, .bool q.t0.v, .string q.t0.name, .bool q.t1.v, .string q.t1.name, .bool q.t2.v, .string q.t2.name, .bool q.t3.v, .string q.t3.name] 43))
  have hP := hP.bel (bel_alloc ((w.alloc (.cells #[.string p.says, .string p.pred, .int .i64 p.n, .bool p.t0.v, .string p.t0.name, .bool p.t1.v, .string p.t1.name, .bool p.t2.v, .string p.t2.name, .bool p.t3.v, .string p.t3.name] 43)).alloc (.cells #[.string q.says, .string q.pred, .int .i64 q.n, .bool q.t0.v, .string q.t0.name, .bool q.t1.v, .string q.t1.name, .bool q.t2.v, .string q.t2.name, .bool q.t3.v, .string q.t3.name] 43)) (.cells #[.string g.says, .string g.pred, .int .i64 g.n, .bool g.t0.v, .string g.t0.name, .bool g.t1.v, .string g.t1.name, .bool g.t2.v, .string g.t2.name, .bool g.t3.v, .string g.t3.name] 43))
  have hP := hP.bel (bel_alloc (((w.alloc (.cells #[.string p.says, .string p.pred, .int .i64 p.n, .bool p.t0.v, .string p.t0.name, .bool p.t1.v, .string p.t1.name, .bool p.t2.v, .string p.t2.name, .bool p.t3.v, .string p.t3.name] 43)).alloc (.cells #[.string q.says, .string q.pred, .int .i64 q.n, .bool q.t0.v, .string q.t0.name, .bool q.t1.v, .string q.t1.name, .bool q.t2.v, .string q.t2.name, .bool q.t3.v, .string q.t3.name] 43)).alloc (.cells #[.string g.says, .string g.pred, .int .i64 g.n, .bool g.t0.v, .string g.t0.name, .bool g.t1.v, .string g.t1.name, .bool g.t2.v, .string g.t2.name, .bool g.t3.v, .string g.t3.name] 43)) (.cells #[.string h.says, .string h.pred, .int .i64 h.n, .bool h.t0.v, .string h.t0.name, .bool h.t1.v, .string h.t1.name, .bool h.t2.v, .string h.t2.name, .bool h.t3.v, .string h.t3.name] 43))
  have hQ := AtomAt.new (w.alloc (.cells #[.string p.says, .string p.pred, .int .i64 p.n, .bool p.t0.v, .string p.t0.name, .bool p.t1.v, .string p.t1.name, .bool p.t2.v, .string p.t2.name, .bool p.t3.v, .string p.t3.name] 43)) q
  rw [show (w.alloc (.cells #[.string p.says, .string p.pred, .int .i64 p.n, .bool p.t0.v, .string p.t0.name, .bool p.t1.v, .string p.t1.name, .bool p.t2.v, .string p.t2.name, .bool p.t3.v, .string p.t3.name] 43)).heap.size = w.heap.size + 1 by simp] at hQ
  have hQ := hQ.bel (bel_alloc ((w.alloc (.cells #[.string p.says, .string p.pred, .int .i64 p.n, .bool p.t0.v, .string p.t0.name, .bool p.t1.v, .string p.t1.name, .bool p.t2.v, .string p.t2.name, .bool p.t3.v, .string p.t3.name] 43)).alloc (.cells #[.string q.says, .string q.pred, .int .i64 q.n, .bool q.t0.v, .string q.t0.name, .bool q.t1.v, .string q.t1.name, .bool q.t2.v, .string q.t2.name, .bool q.t3.v, .string q.t3.name] 43)) (.cells #[.string g.says, .string g.pred, .int .i64 g.n, .bool g.t0.v, .string g.t0.name, .bool g.t1.v, .string g.t1.name, .bool g.t2.v, .string g.t2.name, .bool g.t3.v, .string g.t3.name] 43))
  have hQ := hQ.bel (bel_alloc (((w.alloc (.cells #[.string p.says, .string p.pred, .int .i64 p.n, .bool p.t0.v, .string p.t0.name, .bool p.t1.v, .string p.t1.name, .bool p.t2.v, .string p.t2.name, .bool p.t3.v, .string p.t3.name] 43)).alloc (.cells #[.string q.says, .string q.pred, .int .i64 q.n, .bool q.t0.v, .string q.t0.name, .bool q.t1.v, .string q.t1.name, .bool q.t2.v, .string q.t2.name, .bool q.t3.v, .string q.t3.name] 43)).alloc (.cells #[.string g.says, .string g.pred, .int .i64 g.n, .bool g.t0.v, .string g.t0.name, .bool g.t1.v, .string g.t1.name, .bool g.t2.v, .string g.t2.name, .bool g.t3.v, .string g.t3.name] 43)) (.cells #[.string h.says, .string h.pred, .int .i64 h.n, .bool h.t0.v, .string h.t0.name, .bool h.t1.v, .string h.t1.name, .bool h.t2.v, .string h.t2.name, .bool h.t3.v, .string h.t3.name] 43))
  have hG := AtomAt.new ((w.alloc (.cells #[.string p.says, .string p.pred, .int .i64 p.n, .bool p.t0.v, .string p.t0.name, .bool p.t1.v, .string p.t1.name, .bool p.t2.v, .string p.t2.name, .bool p.t3.v, .string p.t3.name] 43)).alloc (.cells #[.string q.says, .string q.pred, .int .i64 q.n, .bool q.t0.v, .string q.t0.name, .bool q.t1.v, .string q.t1.name, .bool q.t2.v, .string q.t2.name, .bool q.t3.v, .string q.t3.name] 43)) g
  rw [show ((w.alloc (.cells #[.string p.says, .string p.pred, .int .i64 p.n, .bool p.t0.v, .string p.t0.name, .bool p.t1.v, .string p.t1.name, .bool p.t2.v, .string p.t2.name, .bool p.t3.v, .string p.t3.name] 43)).alloc (.cells #[.string q.says, .string q.pred, .int .i64 q.n, .bool q.t0.v, .string q.t0.name, .bool q.t1.v, .string q.t1.name, .bool q.t2.v, .string q.t2.name, .bool q.t3.v, .string q.t3.name] 43)).heap.size = w.heap.size + 2 by simp] at hG
  have hG := hG.bel (bel_alloc (((w.alloc (.cells #[.string p.says, .string p.pred, .int .i64 p.n, .bool p.t0.v, .string p.t0.name, .bool p.t1.v, .string p.t1.name, .bool p.t2.v, .string p.t2.name, .bool p.t3.v, .string p.t3.name] 43)).alloc (.cells #[.string q.says, .string q.pred, .int .i64 q.n, .bool q.t0.v, .string q.t0.name, .bool q.t1.v, .string q.t1.name, .bool q.t2.v, .string q.t2.name, .bool q.t3.v, .string q.t3.name] 43)).alloc (.cells #[.string g.says, .string g.pred, .int .i64 g.n, .bool g.t0.v, .string g.t0.name, .bool g.t1.v, .string g.t1.name, .bool g.t2.v, .string g.t2.name, .bool g.t3.v, .string g.t3.name] 43)) (.cells #[.string h.says, .string h.pred, .int .i64 h.n, .bool h.t0.v, .string h.t0.name, .bool h.t1.v, .string h.t1.name, .bool h.t2.v, .string h.t2.name, .bool h.t3.v, .string h.t3.name] 43))
  have hH := AtomAt.new (((w.alloc (.cells #[.string p.says, .string p.pred, .int .i64 p.n, .bool p.t0.v, .string p.t0.name, .bool p.t1.v, .string p.t1.name, .bool p.t2.v, .string p.t2.name, .bool p.t3.v, .string p.t3.name] 43)).alloc (.cells #[.string q.says, .string q.pred, .int .i64 q.n, .bool q.t0.v, .string q.t0.name, .bool q.t1.v, .string q.t1.name, .bool q.t2.v, .string q.t2.name, .bool q.t3.v, .string q.t3.name] 43)).alloc (.cells #[.string g.says, .string g.pred, .int .i64 g.n, .bool g.t0.v, .string g.t0.name, .bool g.t1.v, .string g.t1.name, .bool g.t2.v, .string g.t2.name, .bool g.t3.v, .string g.t3.name] 43)) h
  rw [show (((w.alloc (.cells #[.string p.says, .string p.pred, .int .i64 p.n, .bool p.t0.v, .string p.t0.name, .bool p.t1.v, .string p.t1.name, .bool p.t2.v, .string p.t2.name, .bool p.t3.v, .string p.t3.name] 43)).alloc (.cells #[.string q.says, .string q.pred, .int .i64 q.n, .bool q.t0.v, .string q.t0.name, .bool q.t1.v, .string q.t1.name, .bool q.t2.v, .string q.t2.name, .bool q.t3.v, .string q.t3.name] 43)).alloc (.cells #[.string g.says, .string g.pred, .int .i64 g.n, .bool g.t0.v, .string g.t0.name, .bool g.t1.v, .string g.t1.name, .bool g.t2.v, .string g.t2.name, .bool g.t3.v, .string g.t3.name] 43)).heap.size = w.heap.size + 3 by simp] at hH
  have hb := (((bel_alloc w (.cells #[.string p.says, .string p.pred, .int .i64 p.n, .bool p.t0.v, .string p.t0.name, .bool p.t1.v, .string p.t1.name, .bool p.t2.v, .string p.t2.name, .bool p.t3.v, .string p.t3.name] 43)).trans' (bel_alloc (w.alloc (.cells #[.string p.says, .string p.pred, .int .i64 p.n, .bool p.t0.v, .string p.t0.name, .bool p.t1.v, .string p.t1.name, .bool p.t2.v, .string p.t2.name, .bool p.t3.v, .string p.t3.name] 43)) (.cells #[.string q.says, .string q.pred, .int .i64 q.n, .bool q.t0.v, .string q.t0.name, .bool q.t1.v, .string q.t1.name, .bool q.t2.v, .string q.t2.name, .bool q.t3.v, .string q.t3.name] 43))).trans' (bel_alloc ((w.alloc (.cells #[.string p.says, .string p.pred, .int .i64 p.n, .bool p.t0.v, .string p.t0.name, .bool p.t1.v, .string p.t1.name, .bool p.t2.v, .string p.t2.name, .bool p.t3.v, .string p.t3.name] 43)).alloc (.cells #[.string q.says, .string q.pred, .int .i64 q.n, .bool q.t0.v, .string q.t0.name, .bool q.t1.v, .string q.t1.name, .bool q.t2.v, .string q.t2.name, .bool q.t3.v, .string q.t3.name] 43)) (.cells #[.string g.says, .string g.pred, .int .i64 g.n, .bool g.t0.v, .string g.t0.name, .bool g.t1.v, .string g.t1.name, .bool g.t2.v, .string g.t2.name, .bool g.t3.v, .string g.t3.name] 43))).trans' (bel_alloc (((w.alloc (.cells #[.string p.says, .string p.pred, .int .i64 p.n, .bool p.t0.v, .string p.t0.name, .bool p.t1.v, .string p.t1.name, .bool p.t2.v, .string p.t2.name, .bool p.t3.v, .string p.t3.name] 43)).alloc (.cells #[.string q.says, .string q.pred, .int .i64 q.n, .bool q.t0.v, .string q.t0.name, .bool q.t1.v, .string q.t1.name, .bool q.t2.v, .string q.t2.name, .bool q.t3.v, .string q.t3.name] 43)).alloc (.cells #[.string g.says, .string g.pred, .int .i64 g.n, .bool g.t0.v, .string g.t0.name, .bool g.t1.v, .string g.t1.name, .bool g.t2.v, .string g.t2.name, .bool g.t3.v, .string g.t3.name] 43)) (.cells #[.string h.says, .string h.pred, .int .i64 h.n, .bool h.t0.v, .string h.t0.name, .bool h.t1.v, .string h.t1.name, .bool h.t2.v, .string h.t2.name, .bool h.t3.v, .string h.t3.name] 43))
  have hLp := Lib.hid (fun W => light_any p W hpk)
  have hLq := Lib.hid (fun W => light_any q W hqk)
  have hLg := Lib.hid (fun W => light_any g W hgk)
  have hLh := Lib.hid (fun W => light_any h W hhk)
  cases q0 : lightA p
  case false =>
    rw [q0] at hLp
    clear q0
    go_enter Try.func7, Try.ntmps7
    go_wp2_with (fail)
    refine (lives5_any _).mono ?_
    rintro e w1 ⟨rfl, hg⟩
    have hP := hP.bel hg
    have hQ := hQ.bel hg
    have hG := hG.bel hg
    have hH := hH.bel hg
    have hb := hb.trans' hg
    clear hg
    obtain ⟨c0, c1, c2, c3, c4, c5, c6, c7, c8, c9, c10⟩ := hP.cells
    go_wp2_with (fail)
    refine (hLp.out _).mono ?_
    rintro e w2 ⟨rfl, hg⟩
    have hP := hP.bel hg
    have hQ := hQ.bel hg
    have hG := hG.bel hg
    have hH := hH.bel hg
    have hb := hb.trans' hg
    clear hg
    clear c0 c1 c2 c3 c4 c5 c6 c7 c8 c9 c10
    obtain ⟨c0, c1, c2, c3, c4, c5, c6, c7, c8, c9, c10⟩ := hQ.cells
    go_wp2
    go_ret
    exact ⟨rfl, hb⟩
  rw [q0] at hLp
  cases q1 : lightA q
  case false =>
    rw [q1] at hLq
    clear q1 q0
    go_enter Try.func7, Try.ntmps7
    go_wp2_with (fail)
    refine (lives5_any _).mono ?_
    rintro e w1 ⟨rfl, hg⟩
    have hP := hP.bel hg
    have hQ := hQ.bel hg
    have hG := hG.bel hg
    have hH := hH.bel hg
    have hb := hb.trans' hg
    clear hg
    obtain ⟨c0, c1, c2, c3, c4, c5, c6, c7, c8, c9, c10⟩ := hP.cells
    go_wp2_with (fail)
    refine (hLp.out _).mono ?_
    rintro e w2 ⟨rfl, hg⟩
    have hP := hP.bel hg
    have hQ := hQ.bel hg
    have hG := hG.bel hg
    have hH := hH.bel hg
    have hb := hb.trans' hg
    clear hg
    clear c0 c1 c2 c3 c4 c5 c6 c7 c8 c9 c10
    obtain ⟨c0, c1, c2, c3, c4, c5, c6, c7, c8, c9, c10⟩ := hQ.cells
    go_wp2_with (fail)
    refine (hLq.out _).mono ?_
    rintro e w3 ⟨rfl, hg⟩
    have hP := hP.bel hg
    have hQ := hQ.bel hg
    have hG := hG.bel hg
    have hH := hH.bel hg
    have hb := hb.trans' hg
    clear hg
    clear c0 c1 c2 c3 c4 c5 c6 c7 c8 c9 c10
    obtain ⟨c0, c1, c2, c3, c4, c5, c6, c7, c8, c9, c10⟩ := hG.cells
    go_wp2
    go_ret
    exact ⟨rfl, hb⟩
  rw [q1] at hLq
  cases q2 : lightA g
  case false =>
    rw [q2] at hLg
    clear q2 q0 q1
    go_enter Try.func7, Try.ntmps7
    go_wp2_with (fail)
    refine (lives5_any _).mono ?_
    rintro e w1 ⟨rfl, hg⟩
    have hP := hP.bel hg
    have hQ := hQ.bel hg
    have hG := hG.bel hg
    have hH := hH.bel hg
    have hb := hb.trans' hg
    clear hg
    obtain ⟨c0, c1, c2, c3, c4, c5, c6, c7, c8, c9, c10⟩ := hP.cells
    go_wp2_with (fail)
    refine (hLp.out _).mono ?_
    rintro e w2 ⟨rfl, hg⟩
    have hP := hP.bel hg
    have hQ := hQ.bel hg
    have hG := hG.bel hg
    have hH := hH.bel hg
    have hb := hb.trans' hg
    clear hg
    clear c0 c1 c2 c3 c4 c5 c6 c7 c8 c9 c10
    obtain ⟨c0, c1, c2, c3, c4, c5, c6, c7, c8, c9, c10⟩ := hQ.cells
    go_wp2_with (fail)
    refine (hLq.out _).mono ?_
    rintro e w3 ⟨rfl, hg⟩
    have hP := hP.bel hg
    have hQ := hQ.bel hg
    have hG := hG.bel hg
    have hH := hH.bel hg
    have hb := hb.trans' hg
    clear hg
    clear c0 c1 c2 c3 c4 c5 c6 c7 c8 c9 c10
    obtain ⟨c0, c1, c2, c3, c4, c5, c6, c7, c8, c9, c10⟩ := hG.cells
    go_wp2_with (fail)
    refine (hLg.out _).mono ?_
    rintro e w4 ⟨rfl, hg⟩
    have hP := hP.bel hg
    have hQ := hQ.bel hg
    have hG := hG.bel hg
    have hH := hH.bel hg
    have hb := hb.trans' hg
    clear hg
    clear c0 c1 c2 c3 c4 c5 c6 c7 c8 c9 c10
    obtain ⟨c0, c1, c2, c3, c4, c5, c6, c7, c8, c9, c10⟩ := hH.cells
    go_wp2
    go_ret
    exact ⟨rfl, hb⟩
  rw [q2] at hLg
  cases q3 : lightA h
  case false =>
    rw [q3] at hLh
    clear q3 q0 q1 q2
    go_enter Try.func7, Try.ntmps7
    go_wp2_with (fail)
    refine (lives5_any _).mono ?_
    rintro e w1 ⟨rfl, hg⟩
    have hP := hP.bel hg
    have hQ := hQ.bel hg
    have hG := hG.bel hg
    have hH := hH.bel hg
    have hb := hb.trans' hg
    clear hg
    obtain ⟨c0, c1, c2, c3, c4, c5, c6, c7, c8, c9, c10⟩ := hP.cells
    go_wp2_with (fail)
    refine (hLp.out _).mono ?_
    rintro e w2 ⟨rfl, hg⟩
    have hP := hP.bel hg
    have hQ := hQ.bel hg
    have hG := hG.bel hg
    have hH := hH.bel hg
    have hb := hb.trans' hg
    clear hg
    clear c0 c1 c2 c3 c4 c5 c6 c7 c8 c9 c10
    obtain ⟨c0, c1, c2, c3, c4, c5, c6, c7, c8, c9, c10⟩ := hQ.cells
    go_wp2_with (fail)
    refine (hLq.out _).mono ?_
    rintro e w3 ⟨rfl, hg⟩
    have hP := hP.bel hg
    have hQ := hQ.bel hg
    have hG := hG.bel hg
    have hH := hH.bel hg
    have hb := hb.trans' hg
    clear hg
    clear c0 c1 c2 c3 c4 c5 c6 c7 c8 c9 c10
    obtain ⟨c0, c1, c2, c3, c4, c5, c6, c7, c8, c9, c10⟩ := hG.cells
    go_wp2_with (fail)
    refine (hLg.out _).mono ?_
    rintro e w4 ⟨rfl, hg⟩
    have hP := hP.bel hg
    have hQ := hQ.bel hg
    have hG := hG.bel hg
    have hH := hH.bel hg
    have hb := hb.trans' hg
    clear hg
    clear c0 c1 c2 c3 c4 c5 c6 c7 c8 c9 c10
    obtain ⟨c0, c1, c2, c3, c4, c5, c6, c7, c8, c9, c10⟩ := hH.cells
    go_wp2_with (fail)
    refine (hLh.out _).mono ?_
    rintro e w5 ⟨rfl, hg⟩
    have hP := hP.bel hg
    have hQ := hQ.bel hg
    have hG := hG.bel hg
    have hH := hH.bel hg
    have hb := hb.trans' hg
    clear hg
    clear c0 c1 c2 c3 c4 c5 c6 c7 c8 c9 c10
    obtain ⟨c0, c1, c2, c3, c4, c5, c6, c7, c8, c9, c10⟩ := hP.cells
    obtain ⟨d0, d1, d2, d3, d4, d5, d6, d7, d8, d9, d10⟩ := hG.cells
    go_wp2
    go_ret
    exact ⟨rfl, hb⟩
  rw [q3] at hLh
  clear q0 q1 q2 q3
  have hM1 := Lib.hid (fun W => Match_any p g W)
  have hM2 := Lib.hid (fun W => Match_any q h W)
  go_enter Try.func7, Try.ntmps7
  go_wp2_with (fail)
  refine (lives5_any _).mono ?_
  rintro e w1 ⟨rfl, hg⟩
  have hP := hP.bel hg
  have hQ := hQ.bel hg
  have hG := hG.bel hg
  have hH := hH.bel hg
  have hb := hb.trans' hg
  clear hg
  obtain ⟨c0, c1, c2, c3, c4, c5, c6, c7, c8, c9, c10⟩ := hP.cells
  go_wp2_with (fail)
  refine (hLp.out _).mono ?_
  rintro e w2 ⟨rfl, hg⟩
  have hP := hP.bel hg
  have hQ := hQ.bel hg
  have hG := hG.bel hg
  have hH := hH.bel hg
  have hb := hb.trans' hg
  clear hg
  clear c0 c1 c2 c3 c4 c5 c6 c7 c8 c9 c10
  obtain ⟨c0, c1, c2, c3, c4, c5, c6, c7, c8, c9, c10⟩ := hQ.cells
  go_wp2_with (fail)
  refine (hLq.out _).mono ?_
  rintro e w3 ⟨rfl, hg⟩
  have hP := hP.bel hg
  have hQ := hQ.bel hg
  have hG := hG.bel hg
  have hH := hH.bel hg
  have hb := hb.trans' hg
  clear hg
  clear c0 c1 c2 c3 c4 c5 c6 c7 c8 c9 c10
  obtain ⟨c0, c1, c2, c3, c4, c5, c6, c7, c8, c9, c10⟩ := hG.cells
  go_wp2_with (fail)
  refine (hLg.out _).mono ?_
  rintro e w4 ⟨rfl, hg⟩
  have hP := hP.bel hg
  have hQ := hQ.bel hg
  have hG := hG.bel hg
  have hH := hH.bel hg
  have hb := hb.trans' hg
  clear hg
  clear c0 c1 c2 c3 c4 c5 c6 c7 c8 c9 c10
  obtain ⟨c0, c1, c2, c3, c4, c5, c6, c7, c8, c9, c10⟩ := hH.cells
  go_wp2_with (fail)
  refine (hLh.out _).mono ?_
  rintro e w5 ⟨rfl, hg⟩
  have hP := hP.bel hg
  have hQ := hQ.bel hg
  have hG := hG.bel hg
  have hH := hH.bel hg
  have hb := hb.trans' hg
  clear hg
  clear c0 c1 c2 c3 c4 c5 c6 c7 c8 c9 c10
  obtain ⟨c0, c1, c2, c3, c4, c5, c6, c7, c8, c9, c10⟩ := hP.cells
  obtain ⟨d0, d1, d2, d3, d4, d5, d6, d7, d8, d9, d10⟩ := hG.cells
  go_wp2_with (fail)
  refine (hM1.out _).mono ?_
  rintro e w6 ⟨⟨q6, k6, l, ia, HE, HO, rfl⟩, hg⟩
  have hP := hP.bel hg
  have hQ := hQ.bel hg
  have hG := hG.bel hg
  have hH := hH.bel hg
  have hb := hb.trans' hg
  clear hg
  clear c0 c1 c2 c3 c4 c5 c6 c7 c8 c9 c10
  clear d0 d1 d2 d3 d4 d5 d6 d7 d8 d9 d10
  obtain ⟨c0, c1, c2, c3, c4, c5, c6, c7, c8, c9, c10⟩ := hQ.cells
  obtain ⟨d0, d1, d2, d3, d4, d5, d6, d7, d8, d9, d10⟩ := hH.cells
  have HL := Lib.hid (OwnL.slice EB HO.out)
  go_wp2_with (fail)
  refine (hM2.out _).mono ?_
  rintro e w7 ⟨⟨q7, k7, m, ib, HF, HO2, rfl⟩, hg⟩
  have hP := hP.bel hg
  have hQ := hQ.bel hg
  have hG := hG.bel hg
  have hH := hH.bel hg
  have HL := Lib.hid (HL.out.bel hg)
  have hb := hb.trans' hg
  clear hg
  clear c0 c1 c2 c3 c4 c5 c6 c7 c8 c9 c10
  clear d0 d1 d2 d3 d4 d5 d6 d7 d8 d9 d10
  obtain ⟨c0, c1, c2, c3, c4, c5, c6, c7, c8, c9, c10⟩ := hQ.cells
  obtain ⟨d0, d1, d2, d3, d4, d5, d6, d7, d8, d9, d10⟩ := hH.cells
  have HM := Lib.hid (OwnL.slice EB HO2.out)
  clear hLp hLq hLg hLh hM1 hM2 HO HO2
  have hlz : ∀ {z : Bool} {x : List BindD} {a b : AtomD}, (x, z) = extR [] a b → x.length ≤ 4 := fun {z x a b} hz => by
    cases z
    · rw [(extR_nil hz).1]; simp
    · rw [make_len (extR_of hz rfl)]; exact varsA_len a
  have hl4 := hlz HE.out
  have hm4 := hlz HF.out
  clear hlz
  have hX := Lib.hid (fun W (hg : Bel w7 W) => Extend_any q6 l l.length k6 rfl q h W (HL.out.bel hg) (by omega))
  cases ia
  case false =>
    obtain ⟨hl0, _⟩ := extR_nil HE.out
    subst hl0
    cases ib
    all_goals
      go_wp2_with (fail)
      refine (hX.out _ (Below.refl _ _)).mono ?_
      rintro e w30 ⟨⟨q8, k8, o8, ic, HX8, HO8, rfl⟩, hg⟩
      have hb := hb.trans' hg
      clear hg
      clear c0 c1 c2 c3 c4 c5 c6 c7 c8 c9 c10
      clear d0 d1 d2 d3 d4 d5 d6 d7 d8 d9 d10
      cases ic
      all_goals
        go_wp2
        go_ret
        exact ⟨rfl, hb⟩
  cases ib
  case false =>
    go_wp2_with (fail)
    refine (hX.out _ (Below.refl _ _)).mono ?_
    rintro e w30 ⟨⟨q8, k8, o8, ic, HX8, HO8, rfl⟩, hg⟩
    have hb := hb.trans' hg
    clear hg
    clear c0 c1 c2 c3 c4 c5 c6 c7 c8 c9 c10
    clear d0 d1 d2 d3 d4 d5 d6 d7 d8 d9 d10
    cases ic
    all_goals
      go_wp2
      go_ret
      exact ⟨rfl, hb⟩
  have HE1 := Lib.hid (extR_of HE.out rfl)
  have HE2 := Lib.hid (extR_of HF.out rfl)
  have HP := Lib.hid hP
  have HQ := Lib.hid hQ
  have HH := Lib.hid hH
  have HB := Lib.hid hb
  clear hP hQ hG hH hb hX
  clear c0 c1 c2 c3 c4 c5 c6 c7 c8 c9 c10
  clear d0 d1 d2 d3 d4 d5 d6 d7 d8 d9 d10
  go_wp2
  go_loopw [15, 16] (fun s15 i wr => ∃ k : Nat, k ≤ m.length ∧ i = .int .i64 k ∧ s15 = .bool (agreeL l (m.take k)) ∧ RowKit.Hid (Bel w7 wr)) (fun _ i _ => m.length - (intOf i).toNat)
  case atStart => exact ⟨0, Nat.zero_le _, rfl, rfl, Lib.hid (Below.refl _ _)⟩
  case round =>
    obtain ⟨k, hk, rfl, rfl, HW⟩ := hrel
    by_cases hlt : k < m.length
    · obtain ⟨b, o, rfl, hbb, hc⟩ := bl_get (HM.out.bel HW.out) (by omega)
      obtain ⟨c1, c2, c3⟩ := hc k hlt
      have hq : (0 : Int) ≤ k := by omega
      have hq2 : (k : Int) < m.length := by omega
      have HS := Lib.hid (agree_step (l := l) (List.getElem?_eq_getElem hlt))
      have hml := (HM.out.bel HW.out)
      clear hc
      generalize m[k] = x at c1 c2 c3 HS
      obtain ⟨xv, tv, ts⟩ := x
      simp only at c1 c2 c3
      have hGt := Lib.hid (rGet_any q6 l l.length k6 rfl xv wr (HL.out.bel HW.out) (by omega))
      go_wp2_with (fail)
      refine hGt.out.mono ?_
      rintro e w31 ⟨⟨t, is, HT, rfl⟩, hg⟩
      have c1 := cell_bel c1 hg
      have c2 := cell_bel c2 hg
      have c3 := cell_bel c3 hg
      have hbl : b < w31.heap.size := Nat.lt_of_lt_of_le hbb hg.size
      have HW1 := Lib.hid ((HW.out.trans' hg).trans' (bel_alloc w31 (.cells #[.bool t.v, .string t.name] 29)))
      clear hg hGt hml hbb
      have HA : RowKit.Hid (agreeB l ⟨xv, tv, ts⟩ = (!is || eqT t ⟨tv, ts⟩)) := Lib.hid (by
        unfold agreeB
        rw [← HT.out])
      obtain ⟨uv, us⟩ := t
      have hne := eql_term uv tv us ts
      have hbl1 : b ≠ w31.heap.size := by omega
      rcases Bool.eq_false_or_eq_true (agreeL l (m.take k)) with ha | ha <;> rcases Bool.eq_false_or_eq_true is with hi | hi <;> rcases Bool.eq_false_or_eq_true (eqT ⟨uv, us⟩ ⟨tv, ts⟩) with hv | hv
      all_goals
        have HZ := Lib.hid (HS.out.trans (by rw [ha, HA.out, hi, hv]))
        rw [hv] at hne
        rw [ha]
        subst hi
        clear hv ha
        go_wp2
        go_quiet (fail)
        go_wp2
        go_roundw
        case rel => exact ⟨k + 1, by omega, by go_num, by rw [HZ.out]; rfl, Lib.hid (HW1.out.trans' (by first | exact Below.refl _ _ | exact bel_drewN _ _))⟩
        case measure => simp [intOf]; omega
    · obtain rfl : k = m.length := by omega
      have hP := HP.out.bel HW.out
      have hQ := HQ.out.bel HW.out
      have hH := HH.out.bel HW.out
      have HLr := Lib.hid (HL.out.bel HW.out)
      have HMr := Lib.hid (HM.out.bel HW.out)
      have hb := Lib.hid (HB.out.trans' HW.out)
      have HAL : RowKit.Hid ((extD l q h).isSome = agreeL l (m.take m.length)) := Lib.hid (by rw [List.take_length]; exact extends_iff HE1.out HE2.out)
      obtain ⟨al, hal⟩ : ∃ al, al = agreeL l (m.take m.length) := ⟨_, rfl⟩
      rw [← hal] at HAL ⊢
      clear hal hlt hk
      have hd : Bel wr wr.drew := bel_drew' (Below.refl _ _)
      have hOw := Lib.hid (fun W (hg : Bel wr W) => ownB_any q6 l l.length k6 rfl W (HLr.out.bel hg) (by omega))
      obtain ⟨d0, d1, d2, d3, d4, d5, d6, d7, d8, d9, d10⟩ := hQ.cells
      obtain ⟨f0, f1, f2, f3, f4, f5, f6, f7, f8, f9, f10⟩ := hH.cells
      have hQ := hQ.drew
      have hH := hH.drew
      go_wp2
      go_region_held3 (fun w' => (w'.cell? ⟨w.heap.size + 1, 0, none⟩ = some (.string q.says) ∧ w'.cell? ⟨w.heap.size + 1, 1, none⟩ = some (.string q.pred) ∧ w'.cell? ⟨w.heap.size + 1, 2, none⟩ = some (.int .i64 q.n) ∧ w'.cell? ⟨w.heap.size + 1, 3, none⟩ = some (.bool q.t0.v) ∧ w'.cell? ⟨w.heap.size + 1, 4, none⟩ = some (.string q.t0.name) ∧ w'.cell? ⟨w.heap.size + 1, 5, none⟩ = some (.bool q.t1.v) ∧ w'.cell? ⟨w.heap.size + 1, 6, none⟩ = some (.string q.t1.name) ∧ w'.cell? ⟨w.heap.size + 1, 7, none⟩ = some (.bool q.t2.v) ∧ w'.cell? ⟨w.heap.size + 1, 8, none⟩ = some (.string q.t2.name) ∧ w'.cell? ⟨w.heap.size + 1, 9, none⟩ = some (.bool q.t3.v) ∧ w'.cell? ⟨w.heap.size + 1, 10, none⟩ = some (.string q.t3.name)) ∧ (w'.cell? ⟨w.heap.size + 3, 0, none⟩ = some (.string h.says) ∧ w'.cell? ⟨w.heap.size + 3, 1, none⟩ = some (.string h.pred) ∧ w'.cell? ⟨w.heap.size + 3, 2, none⟩ = some (.int .i64 h.n) ∧ w'.cell? ⟨w.heap.size + 3, 3, none⟩ = some (.bool h.t0.v) ∧ w'.cell? ⟨w.heap.size + 3, 4, none⟩ = some (.string h.t0.name) ∧ w'.cell? ⟨w.heap.size + 3, 5, none⟩ = some (.bool h.t1.v) ∧ w'.cell? ⟨w.heap.size + 3, 6, none⟩ = some (.string h.t1.name) ∧ w'.cell? ⟨w.heap.size + 3, 7, none⟩ = some (.bool h.t2.v) ∧ w'.cell? ⟨w.heap.size + 3, 8, none⟩ = some (.string h.t2.name) ∧ w'.cell? ⟨w.heap.size + 3, 9, none⟩ = some (.bool h.t3.v) ∧ w'.cell? ⟨w.heap.size + 3, 10, none⟩ = some (.string h.t3.name))) (first | exact ⟨hQ.cells, hH.cells⟩ | go_keep | trivial)
        (first | (go_at_call 42; refine (hOw.out _ hd).mono ?_; rintro e w32 ⟨⟨q9, k9, HO9, rfl⟩, hg⟩; have hQ := hQ.bel hg; have hH := hH.bel hg; have hd := hd.trans' hg; have hX := Lib.hid (Extend_any q9 l l.length k9 rfl q h _ (OwnL.slice EB HO9.out) (by omega)); clear hg) | (go_at_call 34; refine hX.out.mono ?_; rintro e w33 ⟨⟨qn, kn, nn, ic, HEn, HOn, rfl⟩, hg⟩; have hQ := hQ.bel hg; have hH := hH.bel hg; have hd := hd.trans' hg; clear hg))
      all_goals
        have HNn := Lib.hid (OwnL.slice EB HOn.out)
        have hic : ic = al := (congrArg Prod.snd HEn.out).trans HAL.out
        subst hic
        have hxx : (ic != ic) = false := by simp
        have hxy : (ic == ic) = true := by simp
        clear d0 d1 d2 d3 d4 d5 d6 d7 d8 d9 d10 f0 f1 f2 f3 f4 f5 f6 f7 f8 f9 f10 hOw hX HO9
        cases ic
        · obtain ⟨hn0, _⟩ := extR_nil HEn.out
          subst hn0
          go_wp2
          go_ret
          exact ⟨rfl, hb.out.trans' hd⟩
        · have HE3 := Lib.hid (extR_ofl HEn.out)
          have HSM := Lib.hid (extends_same HE1.out HE2.out HE3.out)
          have hnn4 : nn.length ≤ 100 := by
            obtain ⟨h1, h2⟩ := ext_pre HE3.out
            obtain ⟨h3, h4, _, _⟩ := pre_iff.1 h1
            have := ext_len (l.map (·.v)) (ext_flat Flat.nil HE1.out).flat (ground_iff.1 h4) (alike_len h3) h2 (fun s => by
              rw [List.mem_map]
              constructor
              · rintro ⟨b, hb, rfl⟩
                rw [getB_of_mem (ext_flat Flat.nil HE1.out).flat.asc hb]; rfl
              · intro hs
                cases e : getB l s with
                | none => rw [e] at hs; cases hs
                | some t => exact ⟨⟨s, t⟩, getB_mem e, rfl⟩) (by simp)
            have hf : ∀ (ts : List TermD) (acc : List ByteArray), (ts.foldl (stepN true) acc).length ≤ acc.length + ts.length := fun ts => by
              induction ts with
              | nil => intro acc; simp
              | cons t ts ih =>
                intro acc
                have h1 := ih (stepN true acc t)
                have h2 := step_len true acc t
                simp only [List.foldl_cons, List.length_cons]
                omega
            have h5 := hf (argsN q) (l.map (·.v))
            have h6 := argsN_len q
            have h7 := cntI_le q.n
            rw [this]
            simp only [List.length_map] at h5
            omega
          obtain ⟨y1, hy1⟩ : ∃ y, y = applyA l p := ⟨_, rfl⟩
          obtain ⟨y2, hy2⟩ := (⟨_, rfl⟩ : ∃ y, y = applyA m q)
          have hA1 := Lib.hid (fun W (hg : Bel w33 W) => rApply_any qn nn kn p W (HNn.out.bel hg) (by omega))
          have hA2 := Lib.hid (fun W (hg : Bel wr W) => rApply_any q6 l k6 p W (HLr.out.bel hg) (by omega))
          have hA3 := Lib.hid (fun W (hg : Bel w33 W) => rApply_any qn nn kn q W (HNn.out.bel hg) (by omega))
          have hA4 := Lib.hid (fun W (hg : Bel wr W) => rApply_any q7 m k7 q W (HMr.out.bel hg) (by omega))
          rw [HSM.out.1, ← hy1] at hA1
          rw [← hy1] at hA2
          rw [HSM.out.2, ← hy2] at hA3
          rw [← hy2] at hA4
          have hqe1 := (eqA_iff y1 y1).2 rfl
          have hqn1 := eql_atom y1 y1
          have hqe2 := (eqA_iff y2 y2).2 rfl
          have hqn2 := eql_atom y2 y2
          rw [hqe1] at hqn1
          rw [hqe2] at hqn2
          have hP := (hP.bel hd).drew
          have hQ := hQ.drew
          have hd3 : Bel w33 w33.drew := bel_drew' (Below.refl _ _)
          have HD := Lib.hid hd
          clear hy1 hy2 hqe1 hqe2 hd hxx hxy
          go_wp2
          obtain ⟨c0, c1, c2, c3, c4, c5, c6, c7, c8, c9, c10⟩ := hP.cells
          obtain ⟨d0, d1, d2, d3, d4, d5, d6, d7, d8, d9, d10⟩ := hQ.cells
          go_region_held3 (fun w' => (w'.cell? ⟨w.heap.size, 0, none⟩ = some (.string p.says) ∧ w'.cell? ⟨w.heap.size, 1, none⟩ = some (.string p.pred) ∧ w'.cell? ⟨w.heap.size, 2, none⟩ = some (.int .i64 p.n) ∧ w'.cell? ⟨w.heap.size, 3, none⟩ = some (.bool p.t0.v) ∧ w'.cell? ⟨w.heap.size, 4, none⟩ = some (.string p.t0.name) ∧ w'.cell? ⟨w.heap.size, 5, none⟩ = some (.bool p.t1.v) ∧ w'.cell? ⟨w.heap.size, 6, none⟩ = some (.string p.t1.name) ∧ w'.cell? ⟨w.heap.size, 7, none⟩ = some (.bool p.t2.v) ∧ w'.cell? ⟨w.heap.size, 8, none⟩ = some (.string p.t2.name) ∧ w'.cell? ⟨w.heap.size, 9, none⟩ = some (.bool p.t3.v) ∧ w'.cell? ⟨w.heap.size, 10, none⟩ = some (.string p.t3.name)) ∧ (w'.cell? ⟨w.heap.size + 1, 0, none⟩ = some (.string q.says) ∧ w'.cell? ⟨w.heap.size + 1, 1, none⟩ = some (.string q.pred) ∧ w'.cell? ⟨w.heap.size + 1, 2, none⟩ = some (.int .i64 q.n) ∧ w'.cell? ⟨w.heap.size + 1, 3, none⟩ = some (.bool q.t0.v) ∧ w'.cell? ⟨w.heap.size + 1, 4, none⟩ = some (.string q.t0.name) ∧ w'.cell? ⟨w.heap.size + 1, 5, none⟩ = some (.bool q.t1.v) ∧ w'.cell? ⟨w.heap.size + 1, 6, none⟩ = some (.string q.t1.name) ∧ w'.cell? ⟨w.heap.size + 1, 7, none⟩ = some (.bool q.t2.v) ∧ w'.cell? ⟨w.heap.size + 1, 8, none⟩ = some (.string q.t2.name) ∧ w'.cell? ⟨w.heap.size + 1, 9, none⟩ = some (.bool q.t3.v) ∧ w'.cell? ⟨w.heap.size + 1, 10, none⟩ = some (.string q.t3.name))) (first | exact ⟨hP.cells, hQ.cells⟩ | go_keep | trivial)
            (first | (go_at_call 40; refine (hA1.out _ hd3).mono ?_; rintro e w34 ⟨⟨z1, HZ1, rfl⟩, hg⟩; obtain rfl := HZ1.out; have hP := hP.bel hg; have hQ := hQ.bel hg; have hd3 := hd3.trans' hg; clear hg hA1) | (go_at_call 40; refine (hA2.out _ (HD.out.trans' hd3)).mono ?_; rintro e w34 ⟨⟨z1, HZ1, rfl⟩, hg⟩; obtain rfl := HZ1.out; have hP := hP.bel hg; have hQ := hQ.bel hg; have hd3 := hd3.trans' hg; clear hg hA2) | (go_at_call 40; refine (hA3.out _ hd3).mono ?_; rintro e w34 ⟨⟨z1, HZ1, rfl⟩, hg⟩; obtain rfl := HZ1.out; have hP := hP.bel hg; have hQ := hQ.bel hg; have hd3 := hd3.trans' hg; clear hg hA3) | (go_at_call 40; refine (hA4.out _ (HD.out.trans' hd3)).mono ?_; rintro e w34 ⟨⟨z1, HZ1, rfl⟩, hg⟩; obtain rfl := HZ1.out; have hP := hP.bel hg; have hQ := hQ.bel hg; have hd3 := hd3.trans' hg; clear hg hA4))
          all_goals go_wp2
          all_goals go_ret
          all_goals exact ⟨rfl, hb.out.trans' (HD.out.trans' hd3)⟩
end Go.Proofs.Ytlbollmmomheoaa
