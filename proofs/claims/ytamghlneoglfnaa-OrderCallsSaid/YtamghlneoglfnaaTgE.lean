/-
  The statements' own helper A: an atom of names of one byte each. Conditions: as it says. The walk of the statements' own helper A, at names of one byte each. Condition: as it says.
-/
import Derived.Test.YtamghlneoglfnaaTgB
import Derived.Test.YtamghlneoglfnaaTgC
namespace Go.Proofs.Ytamghlneoglfnaa
open Go.RowKit

def byteD (c : UInt8) : TermD := ⟨uppB c, ⟨#[c]⟩⟩
/-- the mark of a variable is set -/
def setV (a : AtomD) (i : Nat) (v : Bool) : AtomD := match i with
  | 0 => ⟨a.says, a.pred, a.n, ⟨v, a.t0.name⟩, a.t1, a.t2, a.t3⟩
  | 1 => ⟨a.says, a.pred, a.n, a.t0, ⟨v, a.t1.name⟩, a.t2, a.t3⟩
  | 2 => ⟨a.says, a.pred, a.n, a.t0, a.t1, ⟨v, a.t2.name⟩, a.t3⟩
  | _ => ⟨a.says, a.pred, a.n, a.t0, a.t1, a.t2, ⟨v, a.t3.name⟩⟩
theorem setV_arg (a : AtomD) (i : Nat) (x y : Bool) (s : ByteArray) : setV (setArg a i ⟨x, s⟩) i y = setArg a i ⟨y, s⟩ := by
  match i with
  | 0 => rfl
  | 1 => rfl
  | 2 => rfl
  | _ + 3 => rfl
theorem store_v {w : World} {g : Nat} {a0 : AtomD} (h : AtomAt w g a0) (i : Nat) (hi : i < 4) (v : Bool) : ∃ w3, (storeVar 4 ⟨g, 3 + i * 2, none⟩ (.bool v)).run Try.prog w = .ok () w3 ∧ AtomAt w3 g (setV a0 i v) ∧ Below g w w3 ∧ ∀ k, k ≠ g → w3.heap[k]? = w.heap[k]? := by
  have hst := run_storeCells_at Try.prog g (3 + i * 2) 27 [.bool v] 0 _ w h (by simp; omega) (by intro u hu; simp at hu; subst hu; rfl)
  have hi' : (Try.prog.info? 4).map (·.size) = some 1 := by kernel_rfl
  cases hq : Try.prog.info? 4 with
  | none => rw [hq] at hi'; cases hi'
  | some i0 =>
    have hz1 : i0.size = 1 := by rw [hq] at hi'; simpa using hi'
    have e : (storeVar 4 ⟨g, 3 + i * 2, none⟩ (.bool v)).run Try.prog w = (storeCells ⟨g, 3 + i * 2, none⟩ [.bool v] 0).run Try.prog w := by
      simp [storeVar, sizeOf, typeInfo, hq, Value.cells, hz1]
    refine ⟨_, e.trans hst, ?_, ⟨rfl, rfl, rfl, by simp [World.setRow], fun k hk => setRow_other w g k _ (by omega)⟩, fun k hk => setRow_other w g k _ hk⟩
    unfold AtomAt
    rw [setRow_heap w g _ _ 27 _ h]
    obtain rfl | rfl | rfl | rfl : i = 0 ∨ i = 1 ∨ i = 2 ∨ i = 3 := by omega
    all_goals rfl
theorem wpList_store_v {ops : Array Oper} {rest : List Oper} {o : Oper} {a : Act} {w : World} {Q : Exit → Act → World → Prop} (hgd : o.guard = none) (x y : Operand) (ho : o.op = .store 4 x y) (g i : Nat) (v : Bool)
    (hx : a.eval x = .pointer (some ⟨g, 3 + i * 2, none⟩)) (hy : a.eval y = .bool v) {a0 : AtomD} (hg : AtomAt w g a0) (hi : i < 4)
    (h : ∀ w', AtomAt w' g (setV a0 i v) → Below g w w' → (∀ k, k ≠ g → w'.heap[k]? = w.heap[k]?) → wpList Try.prog ops Q rest (a.put o.dst undef) w') : wpList Try.prog ops Q (o :: rest) a w := by
  obtain ⟨w3, hst, h1, h2, h3⟩ := store_v hg i hi v
  refine wpList_plain hgd fun _ hK => ?_
  unfold Oper.wp execOp
  simp only [ho, hx, hy, Instr.storeAt, Instr.sureAddr, Sem.run_bind, Sem.run_pure, Result.andThen_ok, hst]
  exact hK _ _ (h w3 h1 h2 h3)
end Go.Proofs.Ytamghlneoglfnaa
namespace Go.Proofs.Ytamghlneoglfnaa
open Go.RowKit

theorem cell_same {w w3 : World} {b o : Nat} (h : w3.heap[b]? = w.heap[b]?) : w3.cell? ⟨b, o, none⟩ = w.cell? ⟨b, o, none⟩ := by simp [World.cell?, h]
set_option maxRecDepth 20000 in
set_option maxHeartbeats 4000000 in
theorem kA_any (s p : ByteArray) (A : Option Addr) (cs : List UInt8) (ca : Nat) (w : World) (h : ListAt w A cs.length (cs.map (fun c => Value.string ⟨#[c]⟩))) (hl : cs.length ≤ 4) :
    Calls Try.prog 9 #[.string s, .string p, .slice A cs.length ca] w fun e w' => (∃ q, RowKit.Hid (q = storedD s p (cs.map byteD)) ∧ e = .returned (.agg #[.string q.says, .string q.pred, .int .i64 q.n, .bool q.t0.v, .string q.t0.name, .bool q.t1.v, .string q.t1.name, .bool q.t2.v, .string q.t2.name, .bool q.t3.v, .string q.t3.name])) ∧ Bel w w' := by
  have hZ := AtomAt.new w zeroA
  have hb := bel_alloc w (.cells #[.string zeroA.says, .string zeroA.pred, .int .i64 zeroA.n, .bool zeroA.t0.v, .string zeroA.t0.name, .bool zeroA.t1.v, .string zeroA.t1.name, .bool zeroA.t2.v, .string zeroA.t2.name, .bool zeroA.t3.v, .string zeroA.t3.name] 27)
  simp only [zeroA, zeroT] at hb
  have hlm : (cs.map byteD).length = cs.length := by simp
  obtain ⟨l, hll⟩ : ∃ l, l = cs.map byteD := ⟨_, rfl⟩
  rw [← hll] at hlm
  have hl4 : l.length ≤ 4 := by omega
  have HLL := Lib.hid hll
  have HH := Lib.hid h
  rw [← hll]
  clear h hll
  have hPs : (partD s p l 0) = ⟨s, p, cs.length, zeroT, zeroT, zeroT, zeroT⟩ := by unfold partD; rw [hlm]; rfl
  have HLM := Lib.hid hlm
  clear hlm
  go_enter Try.func9, Try.ntmps9
  go_wp2
  go_loopw [8] (fun i wr => ∃ k : Nat, k ≤ cs.length ∧ i = .int .i64 k ∧ RowKit.Hid (AtomAt wr (w.heap.size + 1) (partD s p l k) ∧ AtomAt wr w.heap.size zeroA ∧ Bel w wr)) (fun i _ => cs.length - (intOf i).toNat)
  case atStart =>
    refine ⟨0, Nat.zero_le _, rfl, Lib.hid ⟨?_, ?_, ?_⟩⟩
    · have := AtomAt.new (w.alloc (.cells #[.string zeroA.says, .string zeroA.pred, .int .i64 zeroA.n, .bool zeroA.t0.v, .string zeroA.t0.name, .bool zeroA.t1.v, .string zeroA.t1.name, .bool zeroA.t2.v, .string zeroA.t2.name, .bool zeroA.t3.v, .string zeroA.t3.name] 27)) ⟨s, p, cs.length, zeroT, zeroT, zeroT, zeroT⟩
      rw [show (w.alloc (.cells #[.string zeroA.says, .string zeroA.pred, .int .i64 zeroA.n, .bool zeroA.t0.v, .string zeroA.t0.name, .bool zeroA.t1.v, .string zeroA.t1.name, .bool zeroA.t2.v, .string zeroA.t2.name, .bool zeroA.t3.v, .string zeroA.t3.name] 27)).heap.size = w.heap.size + 1 by simp, ← hPs] at this
      rw [hPs] at this ⊢
      exact this
    · exact hZ.bel (bel_alloc _ _)
    · exact hb.trans' (bel_alloc _ _)
  case round =>
    obtain ⟨k, hk, rfl, H⟩ := hrel
    by_cases hlt : k < cs.length
    · obtain ⟨_, hLc⟩ := HH.out
      rcases hLc with h0 | ⟨b, o, rfl, hbb, hLc⟩
      · omega
      have hx0 := hLc k (.string ⟨#[cs[k]]⟩) (by simp [hlt])
      have c1 := cell_later H.out.2.2 hx0
      have HP := Lib.hid (part_set s p l k (by rw [HLM.out]; exact hlt) hl4)
      have hlk : l[k]'(by rw [HLM.out]; exact hlt) = byteD cs[k] := by simp [HLL.out]
      rw [hlk] at HP
      have hq0 : (0 : Int) ≤ k := by omega
      have hq1 : (k : Int) < cs.length := by omega
      have hq2 : (k : Int) < 4 := by omega
      have hk4 : k < 4 := by omega
      clear hLc hlk hx0 hPs
      generalize cs[k] = c at c1 HP
      have hA := H.out.1
      have hbn : b ≠ w.heap.size + 1 := by omega
      have hc : (uppB c = true ∧ 65 ≤ (c.toNat : Int) ∧ (c.toNat : Int) ≤ 90) ∨ (uppB c = false ∧ ¬ 65 ≤ (c.toNat : Int)) ∨ (uppB c = false ∧ 65 ≤ (c.toNat : Int) ∧ ¬ (c.toNat : Int) ≤ 90) := by
        unfold uppB
        by_cases h1 : 65 ≤ (c.toNat : Int) <;> by_cases h2 : (c.toNat : Int) ≤ 90 <;> simp [h1, h2]
      rcases hc with ⟨hu, h1, h2⟩ | ⟨hu, h1⟩ | ⟨hu, h1, h2⟩
      · have h1 : 65 ≤ (((ByteArray.mk #[c])[0]'(by show 0 < 1; omega)).toNat : Int) := h1
        have h2 : (((ByteArray.mk #[c])[0]'(by show 0 < 1; omega)).toNat : Int) ≤ 90 := h2
        have HU := Lib.hid hu
        clear hu
        go_wp2_with (first | (go_at_call 31; refine (c_any _ _).mono ?_; rintro e w1 ⟨rfl, hg⟩; have hA := hA.bel hg; have c1 := cell_later hg c1; have hR := H.out.2.1.bel hg; have hB := H.out.2.2.trans' hg; clear hg) | ((with_reducible refine wpList_store_arg ?_ (.tmp 31) (.tmp 29) ?_ (w.heap.size + 1) k ⟨false, ⟨#[c]⟩⟩ ?_ ?_ hA hk4 ?_); rfl; rfl; rfl; rfl; intro w3 hA3 hb3 ho3; have c1 := (cell_same (ho3 b hbn)).trans c1; have hR := (ho3 w.heap.size (by omega)).trans hR; have hB := Below.trans hB (hb3.mono (by omega)); clear hb3 ho3) | ((with_reducible refine wpList_store_v ?_ (.tmp 56) (.const (.bool true)) ?_ (w.heap.size + 1) k true ?_ ?_ hA3 hk4 ?_); rfl; rfl; rfl; rfl; intro w4 hA4 hb4 ho4; have hR := (ho4 w.heap.size (by omega)).trans hR; have hB := Below.trans hB (hb4.mono (by omega)); clear hb4 ho4))
        go_roundw
        case rel =>
          unfold byteD at HP
          rw [HU.out] at HP
          rw [setV_arg] at hA4
          exact ⟨k + 1, by omega, by go_num, Lib.hid ⟨by rw [← HP.out]; exact hA4, hR, hB⟩⟩
        case measure => simp [intOf]; omega
      · have h1 : ¬ 65 ≤ (((ByteArray.mk #[c])[0]'(by show 0 < 1; omega)).toNat : Int) := h1
        have HU := Lib.hid hu
        clear hu
        go_wp2_with (first | (go_at_call 31; refine (c_any _ _).mono ?_; rintro e w1 ⟨rfl, hg⟩; have hA := hA.bel hg; have c1 := cell_later hg c1; have hR := H.out.2.1.bel hg; have hB := H.out.2.2.trans' hg; clear hg) | ((with_reducible refine wpList_store_arg ?_ (.tmp 31) (.tmp 29) ?_ (w.heap.size + 1) k ⟨false, ⟨#[c]⟩⟩ ?_ ?_ hA hk4 ?_); rfl; rfl; rfl; rfl; intro w3 hA3 hb3 ho3; have c1 := (cell_same (ho3 b hbn)).trans c1; have hR := (ho3 w.heap.size (by omega)).trans hR; have hB := Below.trans hB (hb3.mono (by omega)); clear hb3 ho3) | ((with_reducible refine wpList_store_v ?_ (.tmp 56) (.const (.bool true)) ?_ (w.heap.size + 1) k true ?_ ?_ hA3 hk4 ?_); rfl; rfl; rfl; rfl; intro w4 hA4 hb4 ho4; have hR := (ho4 w.heap.size (by omega)).trans hR; have hB := Below.trans hB (hb4.mono (by omega)); clear hb4 ho4))
        go_roundw
        case rel =>
          unfold byteD at HP
          rw [HU.out] at HP
          exact ⟨k + 1, by omega, by go_num, Lib.hid ⟨by rw [← HP.out]; exact hA3, hR, hB⟩⟩
        case measure => simp [intOf]; omega
      · have h1 : 65 ≤ (((ByteArray.mk #[c])[0]'(by show 0 < 1; omega)).toNat : Int) := h1
        have h2 : ¬ (((ByteArray.mk #[c])[0]'(by show 0 < 1; omega)).toNat : Int) ≤ 90 := h2
        have HU := Lib.hid hu
        clear hu
        go_wp2_with (first | (go_at_call 31; refine (c_any _ _).mono ?_; rintro e w1 ⟨rfl, hg⟩; have hA := hA.bel hg; have c1 := cell_later hg c1; have hR := H.out.2.1.bel hg; have hB := H.out.2.2.trans' hg; clear hg) | ((with_reducible refine wpList_store_arg ?_ (.tmp 31) (.tmp 29) ?_ (w.heap.size + 1) k ⟨false, ⟨#[c]⟩⟩ ?_ ?_ hA hk4 ?_); rfl; rfl; rfl; rfl; intro w3 hA3 hb3 ho3; have c1 := (cell_same (ho3 b hbn)).trans c1; have hR := (ho3 w.heap.size (by omega)).trans hR; have hB := Below.trans hB (hb3.mono (by omega)); clear hb3 ho3) | ((with_reducible refine wpList_store_v ?_ (.tmp 56) (.const (.bool true)) ?_ (w.heap.size + 1) k true ?_ ?_ hA3 hk4 ?_); rfl; rfl; rfl; rfl; intro w4 hA4 hb4 ho4; have hR := (ho4 w.heap.size (by omega)).trans hR; have hB := Below.trans hB (hb4.mono (by omega)); clear hb4 ho4))
        go_roundw
        case rel =>
          unfold byteD at HP
          rw [HU.out] at HP
          exact ⟨k + 1, by omega, by go_num, Lib.hid ⟨by rw [← HP.out]; exact hA3, hR, hB⟩⟩
        case measure => simp [intOf]; omega
    · obtain rfl : k = cs.length := by omega
      have hAl := H.out.1
      rw [← HLM.out, part_all] at hAl
      obtain ⟨q, HQ⟩ : ∃ q, RowKit.Hid (q = storedD s p l) := ⟨_, Lib.hid rfl⟩
      rw [← HQ.out] at hAl
      have hZ := H.out.2.1
      have hb := H.out.2.2
      obtain ⟨c0, c1, c2, c3, c4, c5, c6, c7, c8, c9, c10⟩ := hAl.cells
      clear hPs
      go_wp2_with ((with_reducible refine wpList_store_atom ?_ (.tmp 6) (.tmp 57) ?_ w.heap.size q ?_ ?_ hZ ?_); rfl; rfl; rfl; rfl; intro w3 hR hb3 _; have hb := hb.trans hb3; clear hb3)
      try simp only [Exit.inBlock, Exit.then]
      refine bodyPost_ret (results_atom rfl _ _ _ _ rfl hR) rfl ?_
      exact ⟨⟨q, HQ, rfl⟩, hb⟩
end Go.Proofs.Ytamghlneoglfnaa
