/-
  The walks of package intern's Each and of the law's list of its entries. Conditions: the blocks are the table's own.
-/
import Derived.Test.YtobelhfhciafcaaInU
import Derived.RangeFuncNested
import Derived.RangeFuncBound
import Derived.RangeFuncCalls
import Derived.RangeFuncLeaves
import Derived.RangeFuncBox
import Derived.RangeFuncWrites
import Derived.Shelf.Abstract
import Derived.Lib.SliceRun
import Derived.Shelf.RegionOpen
import Derived.OwnWalkIn
import Derived.TacticsInMore
import Derived.LoopNIn
import Derived.LoopIn
namespace Go.Proofs.Ytobelhfhciafcaa
open Go.RowKit Go.Shelf
attribute [local go_sem] Oper.semAt_some

theorem entC_one : ∀ (st : List (ByteArray × Nat)), ∀ u ∈ entC st, u.oneCell' = true := by
  intro st u hu
  simp only [entC, List.mem_flatMap, List.mem_cons, List.not_mem_nil, or_false] at hu
  obtain ⟨p, _, rfl | rfl⟩ := hu <;> rfl

/-- a copy of the strings that the call made -/
structure CloneAt (w W : World) (v : Value) (st : List (ByteArray × Nat)) : Prop where
  row : W.ownsRow 0 62 2 v st.length (entC st)
  bel : Below w.heap.size w W
  new : ∀ g, v.ownBlock = some g → w.heap.size ≤ g
set_option maxHeartbeats 1000000 in
theorem sclone_any (tv : Value) (st : List (ByteArray × Nat)) (w : World) (h : w.ownsRow 0 62 2 tv st.length (entC st)) (hl : st.length ≤ 100000) :
    Calls Try.prog 34 #[tv] w fun e w' => ∃ v, e = .returned v ∧ CloneAt w w' v st := by
  obtain ⟨i0, hi, hz0, hz1, hz2⟩ := info_parts info_entry
  have qT := fun (w : World) (a : Option Addr) (n c n' c' : Nat) => Lib.run_eql_slice_nil (P := Try.prog) w _ _ a n c n' c' Try.underlying50
  have H := Lib.hid h
  rcases h.2 with ⟨rfl, h0⟩ | ⟨g, cap, cur, rfl, _, hg, hnc, hcm, _, _⟩
  · have hst : st = [] := List.eq_nil_of_length_eq_zero h0
    subst hst
    clear h
    go_enter Try.func34, Try.ntmps34
    go_wp2
    go_ret
    exact ⟨_, rfl, ⟨H.out, Below.refl _ _, by simp [Value.ownBlock]⟩⟩
  · have hgl := lt_of_at hg
    clear h hg
    go_enter Try.func34, Try.ntmps34
    go_wp2_with (at_builtin; refine wpList_append_mine _ rfl (.tmp 5) (.tmp 6) 50 rfl 62 i0 (.agg #[.string ⟨#[]⟩, .int .i64 0]) 2 24 Try.underlying50 hi hz0 hz1 hz2 rfl (by decide) (.slice (some ⟨w.heap.size, 0, none⟩) 0 0) 0 [] rfl (World.ownsRow_made w #[] 0 (Nat.zero_le _) (by simp [maxLen]) rfl) ⟨g, 0, none⟩ st.length cap (entC st) rfl (entC_len st) ((H.out.alloc _).cells rfl) (entC_one st) (by unfold maxLen; omega) (by omega) ?_; intro v2 w2 ho2 hf2 hn2; simp only [Nat.zero_add, List.nil_append] at ho2; obtain ⟨p2, cap2, rfl, _, _⟩ := row_any ho2; have H2 := Lib.hid (And.intro ho2 (And.intro hf2 hn2)); clear ho2 hf2 hn2)
    go_ret
    refine ⟨.slice p2 st.length cap2, rfl, ⟨H2.out.1, ?_, ?_⟩⟩
    · exact ((Below.refl _ w).alloc (Nat.le_refl _) _).trans (H2.out.2.1.below (by simp [Value.ownBlock]) (by simp))
    · intro g' hg'
      rcases H2.out.2.2 g' hg' with e | e
      · simp [Value.ownBlock] at e; omega
      · simp at e; omega

/-- what a round leaves alone: blocks of table entries -/
def KpE (W W' : World) : Prop := ∀ (k : Nat) (c : Array Value) (fr : Nat × Nat), W.heap[k]? = some (.cells c 62 fr) → W'.heap[k]? = some (.cells c 62 fr)
theorem KpE.row {W W' : World} (h : KpE W W') {v : Value} {n : Nat} {xs : List Value} (ho : W.ownsRow 0 62 2 v n xs) : W'.ownsRow 0 62 2 v n xs := by
  obtain ⟨h1, h2 | ⟨g, cap, cur, hv, hg, hh, r⟩⟩ := ho
  · exact ⟨h1, .inl h2⟩
  · exact ⟨h1, .inr ⟨g, cap, cur, hv, hg, h g cur _ hh, r⟩⟩
theorem KpE.trans {A B C : World} (h : KpE A B) (k : KpE B C) : KpE A C := fun i c fr e => k i c fr (h i c fr e)
theorem KpE.fr {W W' : World} (h : Fr [] W W') : KpE W W' := fun k c fr e => h.at (by simp) e

theorem Fr.grown {a b : World} (h : Fr [] a b) : a.grownBy b none := ⟨h.os, h.tape, h.output, h.size, fun k hk _ => h.block k hk (by simp)⟩
theorem eachT_split {st : List (ByteArray × Nat)} {k u : Nat} {s : ByteArray} (h : st[k]? = some (s, u)) (hu : 0 < u) : ∃ r, eachT st 0 = eachT (st.take k) 0 ++ (k, s) :: r := by
  have hl := (List.getElem?_eq_some_iff.1 h).1
  have e : st = st.take (k + 1) ++ st.drop (k + 1) := (List.take_append_drop _ _).symm
  have gen : ∀ (a b : List (ByteArray × Nat)) (j : Nat), eachT (a ++ b) j = eachT a j ++ eachT b (j + a.length) := by
    intro a
    induction a with
    | nil => intro b j; simp [eachT]
    | cons p r ih =>
      intro b j
      rw [List.cons_append]
      simp only [eachT]
      rw [ih, List.length_cons, show j + 1 + r.length = j + (r.length + 1) by omega]
      split <;> simp
  refine ⟨eachT (st.drop (k + 1)) (k + 1), ?_⟩
  have hk : (st.take k).length = k := by simp; omega
  have hk1 : (st.take (k + 1)).length = k + 1 := by simp; omega
  conv => lhs; rw [e, gen, hk1, take_snoc' h, eachT_snoc, hk]
  simp [usedB, hu]

set_option maxRecDepth 100000 in
set_option maxHeartbeats 4000000 in
theorem each1_in (n : Nat) (hn : 1 ≤ n) (l Bt t : Nat) (st : List (ByteArray × Nat)) (bs : List Nat) (J Jx : List (Nat × ByteArray) → World → Prop) (W : World) (hJ : AbidesFrom W.heap.size J)
    (hY : ∀ pre x W1, J pre W1 → pre.length < (eachT st 0).length → YieldAt Fence.wide (n - 1) Try.prog l #[.int .i64 (x.1 : Int), .string x.2] W1 fun e W' =>
      (e = .returned (.bool true) ∧ J (pre ++ [x]) W' ∧ KpE W1 W') ∨ (e = .returned (.bool false) ∧ Jx (pre ++ [x]) W'))
    (hBt : W.cell? ⟨Bt, 0, none⟩ = some (.pointer (some ⟨t, 0, none⟩))) (hT : Tab W t st bs) (h0 : J [] W) :
    CallsIn Fence.wide n Try.prog 33 #[.func (.yield l) #[] #[], .pointer (some ⟨Bt, 0, none⟩)] W fun e W' => (∃ v, e = .returned v) ∧ ((∃ ys, ys = eachT st 0 ∧ J ys W') ∨ (∃ pre, True ∧ Jx pre W')) := by
  obtain ⟨M, tv, fv, f, c, frees, R, G, rfl⟩ := hT
  have hself := R.self
  obtain ⟨k1, k2, htl, f2⟩ := R.cells
  have hlen := G.len
  have HR := Lib.hid R
  clear R G
  refine callsIn_of_wp Try.func33 rfl trivial ?_ rfl
  simp only [Try.ntmps33, List.size_toArray, List.length_cons, List.length_nil, Nat.reduceAdd, Nat.reduceSub, Array.replicate_succ, Array.replicate_zero, List.push_toArray, List.append_toArray, List.nil_append, List.cons_append]
  gi_wp2_with (first | (refine ⟨trivial, ?_⟩; gi_at_call 24; refine (callsIn_wide.2 (made_any t _ hself)).mono ?_; rintro e w' ⟨rfl, rfl⟩) | (refine ⟨trivial, ?_⟩; gi_at_call 34; refine (callsIn_wide.2 (sclone_any tv st _ HR.out.row (by omega))).mono ?_; rintro e w2 ⟨v2, rfl, hc2⟩; obtain ⟨p2, cap2, rfl, hcap2, hmax2⟩ := row_any hc2.row; have HC := Lib.hid hc2; clear hc2))
  unfold maxLen at hmax2
  gi_loopw [14] (fun i wr => ∃ k : Nat, k ≤ st.length ∧ i = .int .i64 k ∧ RowKit.Hid (J (eachT (st.take k) 0) wr ∧ wr.ownsRow 0 62 2 (.slice p2 st.length cap2) st.length (entC st)  )) (fun i _ => st.length - (intOf i).toNat)
  case atStart => exact ⟨0, Nat.zero_le _, rfl, Lib.hid ⟨hJ _ _ _ none h0 (Fr.of_below HC.out.bel).grown (by simp), HC.out.row⟩⟩
  case round =>
    obtain ⟨k, hk, rfl, H⟩ := hrel
    by_cases hlt : k < st.length
    · obtain ⟨s, u, hat⟩ := at_of hlt
      obtain ⟨g2, cap', e, hg, hgl, _, _⟩ := row_value H.out.2 (by omega)
      injection e with e1 _ e2
      subst e1 e2
      have cs := row_cell H.out.2 hg (entC_at hat).1
      have ci := row_cell H.out.2 hg (entC_at hat).2
      have hq : (0 : Int) ≤ k := by omega
      have hq2 : (k : Int) < st.length := by omega
      have HA := Lib.hid hat
      clear hat hg
      by_cases hu : 0 < u
      · have hJ1 := hJ _ wr (wr.alloc (.cells #[.string s, .int .i64 (u : Int)] 62)) none H.out.1 (World.grownBy_alloc _ _ _) (by simp)
        obtain ⟨r, hr⟩ := eachT_split HA.out hu
        obtain ⟨fn, tmps, assign, body, hy, hR⟩ := hY _ (k, s) _ hJ1 (by rw [hr]; simp)
        have hk' : (st.take k).length = k := by simp; omega
        have HS : RowKit.Hid (eachT (st.take (k + 1)) 0 = eachT (st.take k) 0 ++ [(k, s)]) := Lib.hid (by rw [take_snoc' HA.out, eachT_snoc, hk', Nat.zero_add]; simp [usedB, hu])
        have HO := Lib.hid (H.out.2.alloc (.cells #[.string s, .int .i64 (u : Int)] 62))
        dsimp only at hy
        clear hr hJ1 H hk'
        gi_wp2
        refine hR.mono ?_
        rintro e W3 (⟨rfl, hJ3, hk3⟩ | ⟨rfl, hJx3⟩)
        · have HN := Lib.hid (And.intro hJ3 (hk3.row HO.out))
          clear hJ3 hk3
          gi_wp2
          go_roundw
          case rel => exact ⟨k + 1, by omega, by go_num, Lib.hid (by rw [HS.out]; exact HN.out)⟩
          case measure => simp [intOf]; omega
        · gi_wp2
          refine bodyPost_ret (results_none rfl _ _ _) rfl ?_
          exact ⟨⟨_, rfl⟩, .inr ⟨_, trivial, hJx3⟩⟩
      · obtain rfl : u = 0 := by omega
        have hJ1 := hJ _ wr (wr.alloc (.cells #[.string s, .int .i64 0] 62)) none H.out.1 (World.grownBy_alloc _ _ _) (by simp)
        have hk' : (st.take k).length = k := by simp; omega
        have HS : RowKit.Hid (eachT (st.take (k + 1)) 0 = eachT (st.take k) 0) := Lib.hid (by rw [take_snoc' HA.out, eachT_snoc, hk', Nat.zero_add]; simp [usedB])
        have HO := Lib.hid (And.intro hJ1 (H.out.2.alloc (.cells #[.string s, .int .i64 0] 62)))
        clear hJ1 H hk'
        gi_wp2
        refine ⟨fun _ h => (by cases h), ?_⟩
        gi_wp2
        go_roundw
        case rel => exact ⟨k + 1, by omega, by go_num, Lib.hid (by rw [HS.out]; exact HO.out)⟩
        case measure => simp [intOf]; omega
    · gi_wp2
      go_end0
      obtain rfl : k = st.length := by omega
      exact ⟨⟨_, rfl⟩, .inl ⟨_, rfl, by have := H.out.1; rw [List.take_length] at this; exact this⟩⟩
end Go.Proofs.Ytobelhfhciafcaa
