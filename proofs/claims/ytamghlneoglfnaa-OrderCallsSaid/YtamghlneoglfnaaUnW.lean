/-
  The statements' own helper A at names of any length. Condition: as it says.
-/
import Derived.Test.YtamghlneoglfnaaTgE
namespace Go.Proofs.Ytamghlneoglfnaa
open Go.RowKit

def nameD (s : ByteArray) : TermD := ⟨uppB (s.data.toList.headD 0), s⟩
theorem headD_get {c : ByteArray} (h : 0 < c.size) : c.data.toList.headD 0 = c[0]'h := by
  have h2 : 0 < c.data.size := h
  show _ = c.data[0]
  cases e : c.data.toList with
  | nil => have := Array.length_toList (xs := c.data); rw [e] at this; simp at this; omega
  | cons x r =>
    have : c.data[0] = c.data.toList[0]'(by rw [e]; simp) := by rw [Array.getElem_toList]
    rw [this]
    simp [e]
theorem ne_emp_size {c : ByteArray} (h : 0 < c.size) : c.toList.isEmpty = false := by
  rw [ByteArray.toList_eq]
  cases e : c.data.toList with
  | nil => have h3 : c.data.toList.length = c.size := Array.length_toList; rw [e] at h3; simp at h3; omega
  | cons x r => rfl
set_option maxRecDepth 20000 in
set_option maxHeartbeats 4000000 in
theorem kAn_any (s p : ByteArray) (A : Option Addr) (cs : List ByteArray) (ca : Nat) (w : World) (h : ListAt w A cs.length (cs.map Value.string)) (hl : cs.length ≤ 4) (hne : ∀ x ∈ cs, 0 < x.size) :
    Calls Try.prog 9 #[.string s, .string p, .slice A cs.length ca] w fun e w' => (∃ q, RowKit.Hid (q = storedD s p (cs.map nameD)) ∧ e = .returned (.agg #[.string q.says, .string q.pred, .int .i64 q.n, .bool q.t0.v, .string q.t0.name, .bool q.t1.v, .string q.t1.name, .bool q.t2.v, .string q.t2.name, .bool q.t3.v, .string q.t3.name])) ∧ Bel w w' := by
  have HNE := Lib.hid hne
  clear hne
  have hZ := AtomAt.new w zeroA
  have hb := bel_alloc w (.cells #[.string zeroA.says, .string zeroA.pred, .int .i64 zeroA.n, .bool zeroA.t0.v, .string zeroA.t0.name, .bool zeroA.t1.v, .string zeroA.t1.name, .bool zeroA.t2.v, .string zeroA.t2.name, .bool zeroA.t3.v, .string zeroA.t3.name] 27)
  simp only [zeroA, zeroT] at hb
  have hlm : (cs.map nameD).length = cs.length := by simp
  obtain ⟨l, hll⟩ : ∃ l, l = cs.map nameD := ⟨_, rfl⟩
  rw [← hll] at hlm
  have hl4 : l.length ≤ 4 := by omega
  have HLL := Lib.hid hll
  have HH := Lib.hid h
  rw [← hll]
  clear h hll
  have hPs : (partD s p l 0) = ⟨s, p, cs.length, zeroT, zeroT, zeroT, zeroT⟩ := by unfold partD; rw [hlm]; rfl
  have HLM := Lib.hid hlm
  clear hlm
  go_enter Try.func9, Try.ntmps9
  go_wp2
  go_loopw [8] (fun i wr => ∃ k : Nat, k ≤ cs.length ∧ i = .int .i64 k ∧ RowKit.Hid (AtomAt wr (w.heap.size + 1) (partD s p l k) ∧ AtomAt wr w.heap.size zeroA ∧ Bel w wr)) (fun i _ => cs.length - (intOf i).toNat)
  case atStart =>
    refine ⟨0, Nat.zero_le _, rfl, Lib.hid ⟨?_, ?_, ?_⟩⟩
    · have := AtomAt.new (w.alloc (.cells #[.string zeroA.says, .string zeroA.pred, .int .i64 zeroA.n, .bool zeroA.t0.v, .string zeroA.t0.name, .bool zeroA.t1.v, .string zeroA.t1.name, .bool zeroA.t2.v, .string zeroA.t2.name, .bool zeroA.t3.v, .string zeroA.t3.name] 27)) ⟨s, p, cs.length, zeroT, zeroT, zeroT, zeroT⟩
      rw [show (w.alloc (.cells #[.string zeroA.says, .string zeroA.pred, .int .i64 zeroA.n, .bool zeroA.t0.v, .string zeroA.t0.name, .bool zeroA.t1.v, .string zeroA.t1.name, .bool zeroA.t2.v, .string zeroA.t2.name, .bool zeroA.t3.v, .string zeroA.t3.name] 27)).heap.size = w.heap.size + 1 by simp, ← hPs] at this
      rw [hPs] at this ⊢
      exact this
    · exact hZ.bel (bel_alloc _ _)
    · exact hb.trans' (bel_alloc _ _)
  case round =>
    obtain ⟨k, hk, rfl, H⟩ := hrel
    by_cases hlt : k < cs.length
    · obtain ⟨_, hLc⟩ := HH.out
      rcases hLc with h0 | ⟨b, o, rfl, hbb, hLc⟩
      · omega
      have hx0 := hLc k (.string cs[k]) (by simp [hlt])
      have c1 := cell_later H.out.2.2 hx0
      have HP := Lib.hid (part_set s p l k (by rw [HLM.out]; exact hlt) hl4)
      have hlk : l[k]'(by rw [HLM.out]; exact hlt) = nameD cs[k] := by simp [HLL.out]
      rw [hlk] at HP
      have hq0 : (0 : Int) ≤ k := by omega
      have hq1 : (k : Int) < cs.length := by omega
      have hq2 : (k : Int) < 4 := by omega
      have hk4 : k < 4 := by omega
      clear hLc hlk hx0 hPs
      have hne0 := HNE.out cs[k] (List.getElem_mem hlt)
      generalize cs[k] = c at c1 HP hne0
      have hhd : c.data.toList.headD 0 = c[0]'hne0 := headD_get hne0
      have hne1 : c.toList.isEmpty = false := ne_emp_size hne0
      have hne2 : ¬ c.toList = [] := fun h => by rw [h] at hne1; cases hne1
      obtain ⟨hd0, HD0⟩ : ∃ x, x = c.data.toList.headD 0 := ⟨_, rfl⟩
      have HHD := Lib.hid hhd
      unfold nameD at HP
      rw [← HD0] at HP
      rw [← HD0] at hhd
      clear HD0
      have hA := H.out.1
      have hbn : b ≠ w.heap.size + 1 := by omega
      have hc : (uppB hd0 = true ∧ 65 ≤ (hd0.toNat : Int) ∧ (hd0.toNat : Int) ≤ 90) ∨ (uppB hd0 = false ∧ ¬ 65 ≤ (hd0.toNat : Int)) ∨ (uppB hd0 = false ∧ 65 ≤ (hd0.toNat : Int) ∧ ¬ (hd0.toNat : Int) ≤ 90) := by
        unfold uppB
        by_cases h1 : 65 ≤ (hd0.toNat : Int) <;> by_cases h2 : (hd0.toNat : Int) ≤ 90 <;> simp [h1, h2]
      rcases hc with ⟨hu, h1, h2⟩ | ⟨hu, h1⟩ | ⟨hu, h1, h2⟩
      · have h1 : 65 ≤ ((c[0]'hne0).toNat : Int) := by rw [← hhd]; exact h1
        have h2 : ((c[0]'hne0).toNat : Int) ≤ 90 := by rw [← hhd]; exact h2
        have HU := Lib.hid hu
        clear hu hhd
        go_wp2_with (first | (go_at_call 31; refine (c_any _ _).mono ?_; rintro e w1 ⟨rfl, hg⟩; have hA := hA.bel hg; have c1 := cell_later hg c1; have hR := H.out.2.1.bel hg; have hB := H.out.2.2.trans' hg; clear hg) | ((with_reducible refine wpList_store_arg ?_ (.tmp 31) (.tmp 29) ?_ (w.heap.size + 1) k ⟨false, c⟩ ?_ ?_ hA hk4 ?_); rfl; rfl; rfl; rfl; intro w3 hA3 hb3 ho3; have c1 := (cell_same (ho3 b hbn)).trans c1; have hR := (ho3 w.heap.size (by omega)).trans hR; have hB := Below.trans hB (hb3.mono (by omega)); clear hb3 ho3) | ((with_reducible refine wpList_store_v ?_ (.tmp 56) (.const (.bool true)) ?_ (w.heap.size + 1) k true ?_ ?_ hA3 hk4 ?_); rfl; rfl; rfl; rfl; intro w4 hA4 hb4 ho4; have hR := (ho4 w.heap.size (by omega)).trans hR; have hB := Below.trans hB (hb4.mono (by omega)); clear hb4 ho4))
        go_roundw
        case rel =>
          rw [HU.out] at HP
          rw [setV_arg] at hA4
          exact ⟨k + 1, by omega, by go_num, Lib.hid ⟨by rw [← HP.out]; exact hA4, hR, hB⟩⟩
        case measure => simp [intOf]; omega
      · have h1 : ¬ 65 ≤ ((c[0]'hne0).toNat : Int) := by rw [← hhd]; exact h1
        have HU := Lib.hid hu
        clear hu hhd
        go_wp2_with (first | (go_at_call 31; refine (c_any _ _).mono ?_; rintro e w1 ⟨rfl, hg⟩; have hA := hA.bel hg; have c1 := cell_later hg c1; have hR := H.out.2.1.bel hg; have hB := H.out.2.2.trans' hg; clear hg) | ((with_reducible refine wpList_store_arg ?_ (.tmp 31) (.tmp 29) ?_ (w.heap.size + 1) k ⟨false, c⟩ ?_ ?_ hA hk4 ?_); rfl; rfl; rfl; rfl; intro w3 hA3 hb3 ho3; have c1 := (cell_same (ho3 b hbn)).trans c1; have hR := (ho3 w.heap.size (by omega)).trans hR; have hB := Below.trans hB (hb3.mono (by omega)); clear hb3 ho3) | ((with_reducible refine wpList_store_v ?_ (.tmp 56) (.const (.bool true)) ?_ (w.heap.size + 1) k true ?_ ?_ hA3 hk4 ?_); rfl; rfl; rfl; rfl; intro w4 hA4 hb4 ho4; have hR := (ho4 w.heap.size (by omega)).trans hR; have hB := Below.trans hB (hb4.mono (by omega)); clear hb4 ho4))
        go_roundw
        case rel =>
          rw [HU.out] at HP
          exact ⟨k + 1, by omega, by go_num, Lib.hid ⟨by rw [← HP.out]; exact hA3, hR, hB⟩⟩
        case measure => simp [intOf]; omega
      · have h1 : 65 ≤ ((c[0]'hne0).toNat : Int) := by rw [← hhd]; exact h1
        have h2 : ¬ ((c[0]'hne0).toNat : Int) ≤ 90 := by rw [← hhd]; exact h2
        have HU := Lib.hid hu
        clear hu hhd
        go_wp2_with (first | (go_at_call 31; refine (c_any _ _).mono ?_; rintro e w1 ⟨rfl, hg⟩; have hA := hA.bel hg; have c1 := cell_later hg c1; have hR := H.out.2.1.bel hg; have hB := H.out.2.2.trans' hg; clear hg) | ((with_reducible refine wpList_store_arg ?_ (.tmp 31) (.tmp 29) ?_ (w.heap.size + 1) k ⟨false, c⟩ ?_ ?_ hA hk4 ?_); rfl; rfl; rfl; rfl; intro w3 hA3 hb3 ho3; have c1 := (cell_same (ho3 b hbn)).trans c1; have hR := (ho3 w.heap.size (by omega)).trans hR; have hB := Below.trans hB (hb3.mono (by omega)); clear hb3 ho3) | ((with_reducible refine wpList_store_v ?_ (.tmp 56) (.const (.bool true)) ?_ (w.heap.size + 1) k true ?_ ?_ hA3 hk4 ?_); rfl; rfl; rfl; rfl; intro w4 hA4 hb4 ho4; have hR := (ho4 w.heap.size (by omega)).trans hR; have hB := Below.trans hB (hb4.mono (by omega)); clear hb4 ho4))
        go_roundw
        case rel =>
          rw [HU.out] at HP
          exact ⟨k + 1, by omega, by go_num, Lib.hid ⟨by rw [← HP.out]; exact hA3, hR, hB⟩⟩
        case measure => simp [intOf]; omega
    · obtain rfl : k = cs.length := by omega
      have hAl := H.out.1
      rw [← HLM.out, part_all] at hAl
      obtain ⟨q, HQ⟩ : ∃ q, RowKit.Hid (q = storedD s p l) := ⟨_, Lib.hid rfl⟩
      rw [← HQ.out] at hAl
      have hZ := H.out.2.1
      have hb := H.out.2.2
      obtain ⟨c0, c1, c2, c3, c4, c5, c6, c7, c8, c9, c10⟩ := hAl.cells
      clear hPs
      go_wp2_with ((with_reducible refine wpList_store_atom ?_ (.tmp 6) (.tmp 57) ?_ w.heap.size q ?_ ?_ hZ ?_); rfl; rfl; rfl; rfl; intro w3 hR hb3 _; have hb := hb.trans hb3; clear hb3)
      try simp only [Exit.inBlock, Exit.then]
      refine bodyPost_ret (results_atom rfl _ _ _ _ rfl hR) rfl ?_
      exact ⟨⟨q, HQ, rfl⟩, hb⟩
end Go.Proofs.Ytamghlneoglfnaa
