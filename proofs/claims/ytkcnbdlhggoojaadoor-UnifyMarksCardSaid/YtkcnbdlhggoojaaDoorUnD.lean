/-
  Unifying: the walks of its helpers, and of the function that binds one more variable in the caller's list. Conditions: as each says.
-/
import Derived.Test.YtkcnbdlhggoojaaDoorUnA
import Derived.Test.YtkcnbdlhggoojaaDoorMgA
namespace Go.Proofs.YtkcnbdlhggoojaaDoor
open Go.RowKit

set_option maxRecDepth 20000 in
set_option maxHeartbeats 4000000 in
theorem alike6_any (a b : AtomD) (w : World) :
    Calls Tryd.prog 22 #[.agg #[.string a.says, .string a.pred, .int .i64 a.n, .bool a.t0.v, .string a.t0.name, .bool a.t1.v, .string a.t1.name, .bool a.t2.v, .string a.t2.name, .bool a.t3.v, .string a.t3.name], .agg #[.string b.says, .string b.pred, .int .i64 b.n, .bool b.t0.v, .string b.t0.name, .bool b.t1.v, .string b.t1.name, .bool b.t2.v, .string b.t2.name, .bool b.t3.v, .string b.t3.name]] w fun e w' => e = .returned (.bool (alikeD a b)) ∧ Bel w w' := by
  have hb := (bel_alloc w (.cells #[.string a.says, .string a.pred, .int .i64 a.n, .bool a.t0.v, .string a.t0.name, .bool a.t1.v, .string a.t1.name, .bool a.t2.v, .string a.t2.name, .bool a.t3.v, .string a.t3.name] 30)).trans' (bel_alloc _ (.cells #[.string b.says, .string b.pred, .int .i64 b.n, .bool b.t0.v, .string b.t0.name, .bool b.t1.v, .string b.t1.name, .bool b.t2.v, .string b.t2.name, .bool b.t3.v, .string b.t3.name] 30))
  have HL : RowKit.Hid (alikeD a b = ((a.says.toList == b.says.toList) && ((a.pred.toList == b.pred.toList) && ((a.n == b.n) && (decide (0 ≤ a.n) && decide (a.n ≤ 4)))))) := Lib.hid rfl
  rcases Bool.eq_false_or_eq_true (a.says.toList == b.says.toList) with q1 | q1 <;> rcases Bool.eq_false_or_eq_true (a.pred.toList == b.pred.toList) with q2 | q2 <;> rcases Bool.eq_false_or_eq_true (a.n == b.n) with q3 | q3 <;> rcases Bool.eq_false_or_eq_true (decide (0 ≤ a.n)) with q4 | q4 <;> rcases Bool.eq_false_or_eq_true (decide (a.n ≤ 4)) with q5 | q5
  all_goals
    rw [q1, q2, q3, q4, q5] at HL
    go_enter Tryd.func22, Tryd.ntmps22
    go_wp2
    go_ret
    exact ⟨ret_bool HL.out.symm, hb⟩

/-- block b is a list's place: the slice value q -/
def LAt (w : World) (b : Nat) (q : Option Addr) (n c : Nat) : Prop := w.heap[b]? = some (.cells #[.slice q n c] 23)
theorem LAt.bel {w w' : World} {b : Nat} {q : Option Addr} {n c : Nat} (h : LAt w b q n c) (hg : Bel w w') : LAt w' b q n c := (hg.block b (Array.getElem?_eq_some_iff.1 h).1).trans h
theorem LAt.cell {w : World} {b : Nat} {q : Option Addr} {n c : Nat} (h : LAt w b q n c) : w.cell? ⟨b, 0, none⟩ = some (.slice q n c) := cell_of_block h rfl
theorem LAt.lt {w : World} {b : Nat} {q : Option Addr} {n c : Nat} (h : LAt w b q n c) : b < w.heap.size := (Array.getElem?_eq_some_iff.1 h).1
theorem LAt.frozen {w : World} {b : Nat} {q : Option Addr} {n c : Nat} (h : LAt w b q n c) (i : Nat) : w.frozen? ⟨b, i, none⟩ = false := by
  unfold LAt at h
  simp [World.frozen?, h]
theorem LAt.set {w : World} {b : Nat} {q q' : Option Addr} {n c n' c' : Nat} (h : LAt w b q n c) : LAt (w.setCell ⟨b, 0, none⟩ (.slice q' n' c')) b q' n' c' ∧ Below b w (w.setCell ⟨b, 0, none⟩ (.slice q' n' c')) ∧ ∀ k, k ≠ b → (w.setCell ⟨b, 0, none⟩ (.slice q' n' c')).heap[k]? = w.heap[k]? := by
  have ho : ∀ k, k ≠ b → (w.setCell ⟨b, 0, none⟩ (.slice q' n' c')).heap[k]? = w.heap[k]? := fun k hk => by
    simp [World.setCell, Array.getElem?_modify, Ne.symm hk]
  refine ⟨?_, ⟨rfl, rfl, rfl, by simp, fun k hk => ho k (by omega)⟩, ho⟩
  unfold LAt at h ⊢
  simp [World.setCell, Array.getElem?_modify, h]
theorem OB.keep {w W W' : World} {q : Option Addr} {c : Nat} {l : List BindD} (h : OB w W q c l) {b : Nat} (hb : b < w.heap.size) (hs : W'.heap.size = W.heap.size) (ho : ∀ k, k ≠ b → W'.heap[k]? = W.heap[k]?) : BL W' q c l := by
  have h0 := OwnL.slice EB h
  refine ⟨fun j hj => ?_, h0.le, h0.nil, h0.lt⟩
  obtain ⟨g, o, e, hg, hc⟩ := h0.items j hj
  subst e
  have hge : w.heap.size ≤ g := h.new g (by
    obtain ⟨g', cap, e, ho', hlt, _, _⟩ := row_value h.row (by omega)
    injection e with e1 e2 e3
    injection e1 with e1
    injection e1 with e1 _
    subst e1
    exact ho')
  refine ⟨g, o, rfl, by omega, fun i u hu => ?_⟩
  have := hc i u hu
  rw [← this]
  have hh := ho g (by omega)
  simp [World.cell?, hh]

theorem results_terms2 {fn : Func} {p u : Tmp} (h : fn.results = #[.cell p 27, .cell u 27]) (tmps : Array Value) (w : World) (g k : Nat) (q r : TermD) (hp : tmps.getD p undef = .pointer (some ⟨g, 0, none⟩)) (hu : tmps.getD u undef = .pointer (some ⟨k, 0, none⟩)) (hg : TermAt w g q) (hk : TermAt w k r) :
    (results fn tmps).run Tryd.prog w = .ok (.tuple #[.agg #[.bool q.v, .string q.name], .agg #[.bool r.v, .string r.name]]) w := by
  have hp' : tmps[p]?.getD undef = .pointer (some ⟨g, 0, none⟩) := by simpa using hp
  have hu' : tmps[u]?.getD undef = .pointer (some ⟨k, 0, none⟩) := by simpa using hu
  simp only [results, h]
  simp [Sem.run_bind, Result.andThen, hp', hu', asAddr, load_term hg, load_term hk]
set_option maxRecDepth 20000 in
set_option maxHeartbeats 4000000 in
theorem directed_any (s t : TermD) (w : World) :
    Calls Tryd.prog 26 #[.agg #[.bool s.v, .string s.name], .agg #[.bool t.v, .string t.name]] w fun e w' => (∃ x y, RowKit.Hid ((x, y) = dirD s t) ∧ e = .returned (.tuple #[.agg #[.bool x.v, .string x.name], .agg #[.bool y.v, .string y.name]])) ∧ Bel w w' := by
  have HD : RowKit.Hid (dirD s t = if !s.v || (t.v && Op.bytesLess s.name.toList t.name.toList) then (t, s) else (s, t)) := Lib.hid rfl
  obtain ⟨sv, sn⟩ := s
  obtain ⟨tv, tn⟩ := t
  simp only at HD
  obtain ⟨wz, hwz⟩ : ∃ wz, wz = (((w.alloc (.cells #[.bool sv, .string sn] 27)).alloc (.cells #[.bool tv, .string tn] 27)).alloc (.cells #[.bool false, .string ⟨#[]⟩] 27)).alloc (.cells #[.bool false, .string ⟨#[]⟩] 27) := ⟨_, rfl⟩
  have hS : TermAt wz w.heap.size ⟨sv, sn⟩ := by
    rw [hwz]
    exact (((TermAt.new w ⟨sv, sn⟩).bel (bel_alloc _ _)).bel (bel_alloc _ _)).bel (bel_alloc _ _)
  have hT : TermAt wz (w.heap.size + 1) ⟨tv, tn⟩ := by
    rw [hwz]
    have := TermAt.new (w.alloc (.cells #[.bool sv, .string sn] 27)) ⟨tv, tn⟩
    rw [show (w.alloc (.cells #[.bool sv, .string sn] 27)).heap.size = w.heap.size + 1 by simp] at this
    exact (this.bel (bel_alloc _ _)).bel (bel_alloc _ _)
  have hX : TermAt wz (w.heap.size + 1 + 1) zeroT := by
    rw [hwz]
    have := TermAt.new ((w.alloc (.cells #[.bool sv, .string sn] 27)).alloc (.cells #[.bool tv, .string tn] 27)) zeroT
    rw [show ((w.alloc (.cells #[.bool sv, .string sn] 27)).alloc (.cells #[.bool tv, .string tn] 27)).heap.size = w.heap.size + 1 + 1 by simp] at this
    exact this.bel (bel_alloc _ _)
  have hY : TermAt wz (w.heap.size + 1 + 1 + 1) zeroT := by
    rw [hwz]
    have := TermAt.new (((w.alloc (.cells #[.bool sv, .string sn] 27)).alloc (.cells #[.bool tv, .string tn] 27)).alloc (.cells #[.bool false, .string ⟨#[]⟩] 27)) zeroT
    rwa [show (((w.alloc (.cells #[.bool sv, .string sn] 27)).alloc (.cells #[.bool tv, .string tn] 27)).alloc (.cells #[.bool false, .string ⟨#[]⟩] 27)).heap.size = w.heap.size + 1 + 1 + 1 by simp] at this
  have hb : Bel w wz := by
    rw [hwz]
    exact (((bel_alloc _ _).trans' (bel_alloc _ _)).trans' (bel_alloc _ _)).trans' (bel_alloc _ _)
  have HB := Lib.hid hb
  have HX := Lib.hid hX
  have HY := Lib.hid hY
  obtain ⟨s1, s2⟩ := hS.cells
  obtain ⟨t1, t2⟩ := hT.cells
  obtain ⟨x1, x2⟩ := hX.cells
  obtain ⟨y1, y2⟩ := hY.cells
  have x3 := hX.frozen 0
  have x4 := hX.frozen 1
  have y3 := hY.frozen 0
  have y4 := hY.frozen 1
  simp only at s1 s2 t1 t2
  have n1 : w.heap.size ≠ w.heap.size + 1 + 1 := by omega
  have n2 : w.heap.size ≠ w.heap.size + 1 + 1 + 1 := by omega
  have n3 : w.heap.size + 1 ≠ w.heap.size + 1 + 1 := by omega
  have n4 : w.heap.size + 1 ≠ w.heap.size + 1 + 1 + 1 := by omega
  have n5 : w.heap.size + 1 + 1 ≠ w.heap.size + 1 + 1 + 1 := by omega
  have n6 : w.heap.size + 1 + 1 ≠ w.heap.size := by omega
  have n7 : w.heap.size + 1 + 1 + 1 ≠ w.heap.size := by omega
  have n8 : w.heap.size + 1 + 1 ≠ w.heap.size + 1 := by omega
  have n9 : w.heap.size + 1 + 1 + 1 ≠ w.heap.size + 1 := by omega
  have n10 : w.heap.size + 1 + 1 + 1 ≠ w.heap.size + 1 + 1 := by omega
  clear hS hT hX hY hb
  rcases Bool.eq_false_or_eq_true (Op.bytesLess sn.toList tn.toList) with hl | hl <;> cases sv <;> cases tv
  all_goals
    rw [hl] at HD
    go_enter Tryd.func26, Tryd.ntmps26
    go_wp2
    rw [← hwz]
    clear hwz
    first
      | go_region_held3 (fun w' => w'.cell? ⟨w.heap.size, 0, none⟩ = some (.bool false) ∧ w'.cell? ⟨w.heap.size, 1, none⟩ = some (.string sn) ∧ w'.cell? ⟨w.heap.size + 1, 0, none⟩ = some (.bool false) ∧ w'.cell? ⟨w.heap.size + 1, 1, none⟩ = some (.string tn)) (first | go_keep | trivial) (fail)
      | go_region_held3 (fun w' => w'.cell? ⟨w.heap.size, 0, none⟩ = some (.bool false) ∧ w'.cell? ⟨w.heap.size, 1, none⟩ = some (.string sn) ∧ w'.cell? ⟨w.heap.size + 1, 0, none⟩ = some (.bool true) ∧ w'.cell? ⟨w.heap.size + 1, 1, none⟩ = some (.string tn)) (first | go_keep | trivial) (fail)
      | go_region_held3 (fun w' => w'.cell? ⟨w.heap.size, 0, none⟩ = some (.bool true) ∧ w'.cell? ⟨w.heap.size, 1, none⟩ = some (.string sn) ∧ w'.cell? ⟨w.heap.size + 1, 0, none⟩ = some (.bool false) ∧ w'.cell? ⟨w.heap.size + 1, 1, none⟩ = some (.string tn)) (first | go_keep | trivial) (fail)
      | go_region_held3 (fun w' => w'.cell? ⟨w.heap.size, 0, none⟩ = some (.bool true) ∧ w'.cell? ⟨w.heap.size, 1, none⟩ = some (.string sn) ∧ w'.cell? ⟨w.heap.size + 1, 0, none⟩ = some (.bool true) ∧ w'.cell? ⟨w.heap.size + 1, 1, none⟩ = some (.string tn)) (first | go_keep | trivial) (fail)
    have KK := fun x y => set_set HB.out HX.out HY.out (by omega) (by omega) (Ne.symm n5) x y
    go_wp2_with fail
    try simp only [Exit.inBlock, Exit.then]
    refine bodyPost_ret (results_terms2 rfl _ _ _ _ _ _ rfl rfl (KK ⟨_, _⟩ ⟨_, _⟩).1 (KK ⟨_, _⟩ ⟨_, _⟩).2.1) rfl ?_
    exact ⟨⟨⟨_, _⟩, ⟨_, _⟩, Lib.hid HD.out.symm, rfl⟩, bel_drew' (KK ⟨_, _⟩ ⟨_, _⟩).2.2⟩
end Go.Proofs.YtkcnbdlhggoojaaDoor
