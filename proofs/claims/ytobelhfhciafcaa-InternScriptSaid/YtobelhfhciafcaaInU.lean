/-
  The walks of the reference's Each, and of the comparison of two lists of entries. Conditions: the blocks are the table's own.
-/
import Derived.Test.YtobelhfhciafcaaInS
namespace Go.Proofs.Ytobelhfhciafcaa
open Go.RowKit

def entL (l : List (Nat × ByteArray)) : List Value := l.flatMap (fun p => [.int .i64 (p.1 : Int), .string p.2])
theorem entL_snoc (l : List (Nat × ByteArray)) (p : Nat × ByteArray) : entL (l ++ [p]) = entL l ++ [.int .i64 (p.1 : Int), .string p.2] := by simp [entL]
theorem entL_cons (p : Nat × ByteArray) (r : List (Nat × ByteArray)) : entL (p :: r) = .int .i64 (p.1 : Int) :: .string p.2 :: entL r := rfl
theorem entL_len (l : List (Nat × ByteArray)) : (entL l).length = l.length * 2 := by
  induction l with
  | nil => rfl
  | cons p r ih => rw [entL_cons]; simp only [List.length_cons, ih]; omega
theorem entL_at : ∀ {l : List (Nat × ByteArray)} {n m : Nat} {s : ByteArray}, l[n]? = some (m, s) → (entL l)[n * 2]? = some (.int .i64 (m : Int)) ∧ (entL l)[n * 2 + 1]? = some (.string s)
  | [], n, m, s, h => by simp at h
  | p :: r, 0, m, s, h => by simp at h; subst h; simp [entL_cons]
  | p :: r, n + 1, m, s, h => by
    have := entL_at (l := r) (n := n) (by simpa using h)
    rw [entL_cons, show (n + 1) * 2 = n * 2 + 1 + 1 by omega]
    simpa using this
theorem eachT_snoc : ∀ (l : List (ByteArray × Nat)) (p : ByteArray × Nat) (j : Nat), eachT (l ++ [p]) j = eachT l j ++ (if usedB p then [(j + l.length, p.1)] else [])
  | [], p, j => by simp [eachT]
  | q :: r, p, j => by
    have h := eachT_snoc r p (j + 1)
    rw [List.cons_append]
    simp only [eachT]
    rw [h, List.length_cons, show j + 1 + r.length = j + (r.length + 1) by omega]
    split <;> simp
theorem eachT_len (l : List (ByteArray × Nat)) (j : Nat) : (eachT l j).length = usedN l := by
  induction l generalizing j with
  | nil => rfl
  | cons p r ih =>
    unfold eachT usedN
    have h := ih (j + 1)
    unfold usedN at h
    rw [List.countP_cons]
    split
    · simp [h]
    · simp [h]
theorem info_Entry : (Try.prog.info? 47).map (fun i => (i.zero, i.size, i.bytes)) = some (some (.agg #[.int .i64 0, .string ⟨#[]⟩]), 2, 24) := by kernel_rfl
theorem two_one' {s : ByteArray} {k : IntKind} {x : Int} : ∀ u ∈ ([.int k x, .string s] : List Value), u.oneCell' = true := by
  intro u hu
  simp at hu
  rcases hu with rfl | rfl <;> rfl
/-- a list of entries that the call made -/
structure EntAt (w W : World) (v : Value) (l : List (Nat × ByteArray)) : Prop where
  row : W.ownsRow 0 47 2 v l.length (entL l)
  bel : Below w.heap.size w W
  new : ∀ g, v.ownBlock = some g → w.heap.size ≤ g
theorem EntAt.push {w W W' : World} {v v' : Value} {l : List (Nat × ByteArray)} {p : Nat × ByteArray} {x : Obj} (h : EntAt w W v l) (ho : W'.ownsRow 0 47 2 v' (l.length + 1) (entL l ++ [.int .i64 (p.1 : Int), .string p.2])) (hf : Fr v.ownBlock.toList (W.alloc x) W') (hn : ∀ g, v'.ownBlock = some g → v.ownBlock = some g ∨ (W.alloc x).heap.size ≤ g) : EntAt w W' v' (l ++ [p]) := by
  have hs := h.bel.size
  refine ⟨by rw [entL_snoc]; simpa using ho, (h.bel.alloc hs _).trans (hf.below (fun k hk => h.new k (by simpa using hk)) (by simp; omega)), fun g hg => ?_⟩
  rcases hn g hg with e | e
  · exact h.new g e
  · simp at e; omega

set_option maxHeartbeats 2000000 in
theorem rEach_any (o : Nat) (tv mv : Value) (st : List (ByteArray × Nat)) (w : World) (R : RRaw w o tv mv st) (hwf : WF st) (hl : st.length ≤ 100000) :
    Calls Try.prog 23 #[.pointer (some ⟨o, 0, none⟩)] w fun e w' => ∃ v, e = .returned v ∧ EntAt w w' v (eachT st 0) := by
  obtain ⟨i0, hi, hz0, hz1, hz2⟩ := info_parts info_Entry
  have hol := lt_of_at R.blk
  obtain ⟨p, cap, rfl, hcap, hmax⟩ := row_any R.rs
  unfold maxLen at hmax
  have HR := Lib.hid R
  have HW := Lib.hid hwf
  clear R hwf
  go_enter Try.func23, Try.ntmps23
  go_wp2
  go_loopw [3, 4] (fun a i wr => ∃ (k n : Nat) (q : Option Addr) (c : Nat), k ≤ st.length ∧ n ≤ k ∧ i = .int .i64 k ∧ a = .slice q n c ∧ RowKit.Hid (n = (eachT (st.take k) 0).length ∧ EntAt w wr (.slice q n c) (eachT (st.take k) 0))) (fun _ i _ => st.length - (intOf i).toNat)
  case atStart => exact ⟨0, 0, none, 0, Nat.zero_le _, Nat.le_refl _, rfl, rfl, Lib.hid ⟨rfl, ⟨World.ownsRow_nil _ _ _ _, Below.refl _ _, by simp [Value.ownBlock]⟩⟩⟩
  case round =>
    obtain ⟨k, n, q, c, hk, hnk, rfl, rfl, H⟩ := hrel
    have RW := HR.out.fr (Fr.of_below (F := []) H.out.2.bel) (by simp)
    obtain ⟨k0, k1, hol1, _, _⟩ := blk2 RW.blk
    by_cases hlt : k < st.length
    · obtain ⟨x, u, hat⟩ := at_of hlt
      obtain ⟨g, rfl, cc, _, _, _⟩ := RW.text hat
      have hgw : g < w.heap.size := row_lt HR.out.rs rfl
      have hwk := HW.out _ (List.mem_of_getElem? hat)
      have hq : (0 : Int) ≤ k := by omega
      have hq2 : (k : Int) < st.length := by omega
      have hklen : (st.take k).length = k := by simp; omega
      have HT : RowKit.Hid (eachT (st.take (k + 1)) 0 = eachT (st.take k) 0 ++ if usedB (x, u) then [(k, x)] else []) := Lib.hid (by rw [take_snoc' hat, eachT_snoc, hklen, Nat.zero_add])
      by_cases hx : 1 ≤ x.size
      · have hne := ba_bne hx
        have HU : RowKit.Hid (usedB (x, u) = true) := Lib.hid (by simp [usedB, hwk.2 hx])
        clear hat hwk hcap hklen RW
        go_wp2_with (at_builtin; refine wpList_append_mine _ rfl (.tmp 22) (.tmp 32) 40 rfl 47 i0 (.agg #[.int .i64 0, .string ⟨#[]⟩]) 2 24 Try.underlying40 hi hz0 hz1 hz2 rfl (by decide) (.slice q n c) n (entL (eachT (st.take k) 0)) rfl (by have := H.out.2.row; rw [← H.out.1] at this; exact this.alloc _) _ 1 1 [.int .i64 (k : Int), .string x] rfl rfl new_two two_one' (by unfold maxLen; omega) (by omega) ?_; intro v2 w2 ho2 hf2 hn2; obtain ⟨g2, cap2, rfl, _, _, _, _⟩ := row_value ho2 (by omega); have HE := Lib.hid (EntAt.push (p := (k, x)) H.out.2 (by rw [← H.out.1]; exact ho2) hf2 hn2); clear ho2 hf2 hn2)
        go_roundw
        case rel => exact ⟨k + 1, n + 1, _, _, by omega, by omega, by go_num, rfl, Lib.hid (by rw [HT.out, HU.out, if_pos rfl]; exact ⟨by rw [List.length_append, ← H.out.1]; rfl, HE.out⟩)⟩
        case measure => simp [intOf]; omega
      · have he := ba_emp hx
        subst he
        have HU : RowKit.Hid (usedB (ByteArray.empty, u) = false) := Lib.hid (by have h0 : ¬ 0 < u := fun h0 => absurd (hwk.1 h0) hx; simp [usedB, h0])
        have cc2 : wr.cell? ⟨g, k, none⟩ = some (.string ⟨#[]⟩) := cc
        clear hat hwk hcap cc hklen RW
        go_wp2
        go_roundw
        case rel => exact ⟨k + 1, n, q, c, by omega, by omega, by go_num, rfl, Lib.hid (by rw [HT.out, HU.out]; simpa using H.out)⟩
        case measure => simp [intOf]; omega
    · obtain rfl : k = st.length := by omega
      have HN : RowKit.Hid (EntAt w wr (.slice q n c) (eachT st 0)) := Lib.hid (by have := H.out.2; rw [List.take_length] at this; exact this)
      clear RW
      go_wp2
      go_ret
      exact ⟨_, rfl, HN.out⟩
end Go.Proofs.Ytobelhfhciafcaa
