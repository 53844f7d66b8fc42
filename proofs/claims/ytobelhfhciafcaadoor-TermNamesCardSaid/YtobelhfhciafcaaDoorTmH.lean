/-
  The reference's making of an atom. Conditions: as it says.
-/
import Derived.Test.YtobelhfhciafcaaDoorTmF
namespace Go.Proofs.YtobelhfhciafcaaDoor
open Go.RowKit

def setArg (a : AtomD) (i : Nat) (t : TermD) : AtomD := match i with
  | 0 => ⟨a.says, a.pred, a.n, t, a.t1, a.t2, a.t3⟩
  | 1 => ⟨a.says, a.pred, a.n, a.t0, t, a.t2, a.t3⟩
  | 2 => ⟨a.says, a.pred, a.n, a.t0, a.t1, t, a.t3⟩
  | _ => ⟨a.says, a.pred, a.n, a.t0, a.t1, a.t2, t⟩
theorem store_arg {w : World} {g : Nat} {a0 : AtomD} (h : AtomAt w g a0) (i : Nat) (hi : i < 4) (t : TermD) : ∃ w3, (storeVar 24 ⟨g, 3 + i * 2, none⟩ (.agg #[.bool t.v, .string t.name])).run Tryd.prog w = .ok () w3 ∧ AtomAt w3 g (setArg a0 i t) ∧ Below g w w3 ∧ ∀ k, k ≠ g → w3.heap[k]? = w.heap[k]? := by
  obtain ⟨i0, hq, _, hz1, _⟩ := info_parts2
  have hst := run_storeCells_at Tryd.prog g (3 + i * 2) 27 [.bool t.v, .string t.name] 0 _ w h (by simp; omega) (termCells_one [t])
  have e : (storeVar 24 ⟨g, 3 + i * 2, none⟩ (.agg #[.bool t.v, .string t.name])).run Tryd.prog w = (storeCells ⟨g, 3 + i * 2, none⟩ [.bool t.v, .string t.name] 0).run Tryd.prog w := by
    simp [storeVar, sizeOf, typeInfo, hq, Value.cells, hz1]
  refine ⟨_, e.trans hst, ?_, ⟨rfl, rfl, rfl, by simp [World.setRow], fun k hk => setRow_other w g k _ (by omega)⟩, fun k hk => setRow_other w g k _ hk⟩
  unfold AtomAt
  rw [setRow_heap w g _ _ 27 _ h]
  obtain rfl | rfl | rfl | rfl : i = 0 ∨ i = 1 ∨ i = 2 ∨ i = 3 := by omega
  all_goals rfl
theorem wpList_store_arg {ops : Array Oper} {rest : List Oper} {o : Oper} {a : Act} {w : World} {Q : Exit → Act → World → Prop} (hgd : o.guard = none) (x y : Operand) (ho : o.op = .store 24 x y) (g i : Nat) (t : TermD)
    (hx : a.eval x = .pointer (some ⟨g, 3 + i * 2, none⟩)) (hy : a.eval y = .agg #[.bool t.v, .string t.name]) {a0 : AtomD} (hg : AtomAt w g a0) (hi : i < 4)
    (h : ∀ w', AtomAt w' g (setArg a0 i t) → Below g w w' → (∀ k, k ≠ g → w'.heap[k]? = w.heap[k]?) → wpList Tryd.prog ops Q rest (a.put o.dst undef) w') : wpList Tryd.prog ops Q (o :: rest) a w := by
  obtain ⟨w3, hst, h1, h2, h3⟩ := store_arg hg i hi t
  refine wpList_plain hgd fun _ hK => ?_
  unfold Oper.wp execOp
  simp only [ho, hx, hy, Instr.storeAt, Instr.sureAddr, Sem.run_bind, Sem.run_pure, Result.andThen_ok, hst]
  exact hK _ _ (h w3 h1 h2 h3)
def partD (s p : ByteArray) (l : List TermD) (k : Nat) : AtomD := ⟨s, p, l.length, (l.take k).getD 0 zeroT, (l.take k).getD 1 zeroT, (l.take k).getD 2 zeroT, (l.take k).getD 3 zeroT⟩
theorem part_all (s p : ByteArray) (l : List TermD) : partD s p l l.length = storedD s p l := by unfold partD storedD; rw [List.take_length]
theorem part_set (s p : ByteArray) (l : List TermD) (k : Nat) (hk : k < l.length) (hl : l.length ≤ 4) : setArg (partD s p l k) k l[k] = partD s p l (k + 1) := by
  match l, hl with
  | [x0], _ => obtain rfl : k = 0 := by simp at hk; omega
               rfl
  | [x0, x1], _ =>
    obtain rfl | rfl : k = 0 ∨ k = 1 := by simp at hk; omega
    all_goals rfl
  | [x0, x1, x2], _ =>
    obtain rfl | rfl | rfl : k = 0 ∨ k = 1 ∨ k = 2 := by simp at hk; omega
    all_goals rfl
  | [x0, x1, x2, x3], _ =>
    obtain rfl | rfl | rfl | rfl : k = 0 ∨ k = 1 ∨ k = 2 ∨ k = 3 := by simp at hk; omega
    all_goals rfl
  | [], _ => simp at hk
  | _ :: _ :: _ :: _ :: _ :: _, h5 => simp at h5

set_option maxRecDepth 20000 in
set_option maxHeartbeats 4000000 in
theorem rMade_any (s p : ByteArray) (A : Option Addr) (l : List TermD) (ca : Nat) (w : World) (hs : s.size ≤ 9223372036854775807) (hp : p.size ≤ 9223372036854775807) (h : TermsAt w A l) (hl : l.length ≤ 1000000) (hsz : ∀ t ∈ l, t.name.size ≤ 9223372036854775807) :
    Calls Tryd.prog 22 #[.string s, .string p, .slice A l.length ca] w fun e w' => (∃ q n, RowKit.Hid ((q, n) = madeD s p l) ∧ e = .returned (.tuple #[.agg #[.string q.says, .string q.pred, .int .i64 q.n, .bool q.t0.v, .string q.t0.name, .bool q.t1.v, .string q.t1.name, .bool q.t2.v, .string q.t2.name, .bool q.t3.v, .string q.t3.name], .int .i64 n])) ∧ Bel w w' := by
  have hZ := AtomAt.new w zeroA
  have hb := bel_alloc w (.cells #[.string zeroA.says, .string zeroA.pred, .int .i64 zeroA.n, .bool zeroA.t0.v, .string zeroA.t0.name, .bool zeroA.t1.v, .string zeroA.t1.name, .bool zeroA.t2.v, .string zeroA.t2.name, .bool zeroA.t3.v, .string zeroA.t3.name] 27)
  simp only [zeroA, zeroT] at hb
  by_cases h4 : 4 < l.length
  · have h5 : (4 : Int) < l.length := by omega
    have HE := Lib.hid (made_long (s := s) (p := p) h4)
    clear h4
    go_enter Tryd.func22, Tryd.ntmps22
    go_wp2
    try simp only [Exit.inBlock, Exit.then]
    refine bodyPost_ret (results_atom2 rfl _ _ _ zeroA rfl hZ) rfl ?_
    exact ⟨⟨_, _, Lib.hid HE.out.symm, rfl⟩, hb⟩
  have h5 : (l.length : Int) ≤ 4 := by omega
  have h4' : l.length ≤ 4 := by omega
  have HT := Lib.hid h
  have HOK := Lib.hid (storedD_ok hs hp (by omega) hsz)
  have HO := made_ok (s := s) (p := p) h4
  have HB := made_bad (s := s) (p := p) h4
  obtain ⟨q, hq⟩ : ∃ q, q = storedD s p l := ⟨_, rfl⟩
  rw [← hq] at HO HB HOK
  have HQ := Lib.hid hq
  have HO := Lib.hid HO
  have HB := Lib.hid HB
  clear h h4 hq hsz
  go_enter Tryd.func22, Tryd.ntmps22
  go_wp2
  go_loopw [9] (fun i wr => ∃ k : Nat, k ≤ l.length ∧ i = .int .i64 k ∧ RowKit.Hid (AtomAt wr (w.heap.size + 1) (partD s p l k) ∧ AtomAt wr w.heap.size zeroA ∧ Bel w wr)) (fun i _ => l.length - (intOf i).toNat)
  case atStart =>
    refine ⟨0, Nat.zero_le _, rfl, Lib.hid ⟨?_, ?_, ?_⟩⟩
    · have := AtomAt.new (w.alloc (.cells #[.string zeroA.says, .string zeroA.pred, .int .i64 zeroA.n, .bool zeroA.t0.v, .string zeroA.t0.name, .bool zeroA.t1.v, .string zeroA.t1.name, .bool zeroA.t2.v, .string zeroA.t2.name, .bool zeroA.t3.v, .string zeroA.t3.name] 27)) (partD s p l 0)
      rw [show (w.alloc (.cells #[.string zeroA.says, .string zeroA.pred, .int .i64 zeroA.n, .bool zeroA.t0.v, .string zeroA.t0.name, .bool zeroA.t1.v, .string zeroA.t1.name, .bool zeroA.t2.v, .string zeroA.t2.name, .bool zeroA.t3.v, .string zeroA.t3.name] 27)).heap.size = w.heap.size + 1 by simp] at this
      exact this
    · exact hZ.bel (bel_alloc _ _)
    · exact hb.trans' (bel_alloc _ _)
  case round =>
    obtain ⟨k, hk, rfl, H⟩ := hrel
    by_cases hlt : k < l.length
    · obtain ⟨b, o, rfl, hbb, hc⟩ := (HT.out.bel H.out.2.2).get (by omega)
      obtain ⟨c1, c2⟩ := hc k hlt
      have HP := Lib.hid (part_set s p l k hlt h4')
      have hA := H.out.1
      have hk4 : k < 4 := by omega
      have hq0 : (0 : Int) ≤ k := by omega
      have hq1 : (k : Int) < l.length := by omega
      have hq2 : (k : Int) < 4 := by omega
      have hh : RowKit.Hid (w.heap.size < w.heap.size + 1) := Lib.hid (by omega)
      clear hbb hc
      generalize l[k] = t at c1 c2 HP
      go_wp2_with ((with_reducible refine wpList_store_arg ?_ (.tmp 32) (.tmp 30) ?_ (w.heap.size + 1) k t ?_ ?_ hA hk4 ?_); rfl; rfl; rfl; rfl; intro w3 hA3 hb3 ho3)
      go_roundw
      case rel =>
        refine ⟨k + 1, by omega, by go_num, Lib.hid ⟨?_, ?_, ?_⟩⟩
        · rw [← HP.out]; exact hA3
        · exact (ho3 _ (by omega)).trans H.out.2.1
        · exact Below.trans H.out.2.2 (hb3.mono (by omega))
      case measure => simp [intOf]; omega
    · obtain rfl : k = l.length := by omega
      have hL : AtomAt wr (w.heap.size + 1) q := by have := H.out.1; rwa [part_all, ← HQ.out] at this
      have hZ := H.out.2.1
      have hb := H.out.2.2
      obtain ⟨c0, c1, c2, c3, c4, c5, c6, c7, c8, c9, c10⟩ := hL.cells
      rcases Decidable.em (checkD q = 0) with hc | hc
      · have HM := Lib.hid (HO.out hc)
        go_wp2_with (first | (go_at_call 23; refine (rCheck_any q _ HOK.out).mono ?_; rintro e w2 ⟨rfl, hg⟩; have hZ := hZ.bel hg; have hL := hL.bel hg; obtain ⟨c0, c1, c2, c3, c4, c5, c6, c7, c8, c9, c10⟩ := hL.cells; have hb := hb.trans' hg; clear hg) | ((with_reducible refine wpList_store_atom ?_ (.tmp 6) (.tmp 39) ?_ w.heap.size q ?_ ?_ hZ ?_); rfl; rfl; rfl; rfl; intro w3 hR hb3 _; have hb := hb.trans hb3; clear hb3))
        try simp only [Exit.inBlock, Exit.then]
        refine bodyPost_ret (results_atom2 rfl _ _ _ _ rfl hR) rfl ?_
        exact ⟨⟨_, _, Lib.hid HM.out.symm, rfl⟩, hb⟩
      · have HM := Lib.hid (HB.out hc)
        have hc2 : (checkD q != 0) = true := by simp [hc]
        go_wp2_with (first | (go_at_call 23; refine (rCheck_any q _ HOK.out).mono ?_; rintro e w2 ⟨rfl, hg⟩; have hZ := hZ.bel hg; have hL := hL.bel hg; obtain ⟨c0, c1, c2, c3, c4, c5, c6, c7, c8, c9, c10⟩ := hL.cells; have hb := hb.trans' hg; clear hg) | ((with_reducible refine wpList_store_atom ?_ (.tmp 6) (.tmp 37) ?_ w.heap.size zeroA ?_ ?_ hZ ?_); rfl; rfl; rfl; rfl; intro w3 hR hb3 _; have hb := hb.trans hb3; clear hb3))
        try simp only [Exit.inBlock, Exit.then]
        refine bodyPost_ret (results_atom2 rfl _ _ _ _ rfl hR) rfl ?_
        exact ⟨⟨_, _, Lib.hid HM.out.symm, rfl⟩, hb⟩
end Go.Proofs.YtobelhfhciafcaaDoor
