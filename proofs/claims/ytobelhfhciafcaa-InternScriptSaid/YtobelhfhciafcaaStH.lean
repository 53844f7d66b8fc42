/-
  A drawn region whose first operations leave the world as it is, and whose later ones all wait for the last of these: the first are gone through once, in their order, at the one world; the walk of the rest follows. (The later ones need not stand in one row: Derived/StillTail.lean asks that.)
-/
import Derived.StillTail
import Derived.StillTailTactics
import Derived.Deep.RegionWith
namespace Go.Proofs.Ytobelhfhciafcaa
open Go
section
variable {P : Program} {ops : Array Oper} {md : Region.Mode} {w : World}

def lateB (md : Region.Mode) (ops : Array Oper) (n : Nat) : Bool :=
  (List.range ops.size).all fun t => decide (t < n) || (List.range t).any fun j => decide (n ≤ j + 1) && Region.waitsFor md ops t j

def marks : Nat → Nat → Array Bool → Array Bool
  | 0, _, listed => listed
  | f + 1, k, listed => marks f (k + 1) (listed.setIfInBounds k true)

def inRow (md : Region.Mode) (ops : Array Oper) : Nat → Nat → Array Bool → Bool
  | 0, _, _ => true
  | f + 1, k, listed => (Region.ready md ops listed).contains k && Region.free md ops listed k && inRow md ops f (k + 1) (listed.setIfInBounds k true)

def headB (md : Region.Mode) (ops : Array Oper) (m : Nat) : Bool :=
  Region.noSelect ops && decide (m + 1 < ops.size) && Region.sinkB md ops m && lateB md ops (m + 1) && inRow md ops (m + 1) 0 (Array.replicate ops.size false)
    && (Region.ready md ops (marks (m + 1) 0 (Array.replicate ops.size false))).all (fun j => decide (m + 1 ≤ j))

theorem last_open {m : Nat} {listed : Array Bool} (hs : Region.sinkB md ops m = true) (inv : HeadInv md ops (m + 1) listed) :
    ∀ (d i : Nat), m - i = d → i ≤ m → listed.getD i true = false → listed.getD m false = false := by
  intro d
  induction d using Nat.strongRecOn with
  | _ d ih =>
    intro i hd hi hun
    by_cases him : i = m
    · rw [← him]; exact getD_both hun
    · obtain ⟨j, hj, hw⟩ := List.any_eq_true.1 (List.all_eq_true.1 hs i (List.mem_range.2 (by omega)))
      simp only [Bool.and_eq_true, decide_eq_true_eq] at hw
      have hjm := List.mem_range.1 hj
      obtain ⟨oj, hoj, e, he, hb, hon⟩ := Region.waitsFor_spec hw.2
      rcases hc : listed.getD j false with _ | _
      · have hjs : j < listed.size := by rw [inv.size]; exact (Array.getElem?_eq_some_iff.1 hoj).1
        exact ih (m - j) (by omega) j rfl (by omega) (getD_in hjs hc)
      · have h1 := inv.closed j oj hoj hc e he hb
        rw [hon, getD_both hun] at h1
        cases h1

theorem late_waits {m : Nat} {listed : Array Bool} (hs : Region.sinkB md ops m = true) (hl : lateB md ops (m + 1) = true) (inv : HeadInv md ops (m + 1) listed)
    {i : Nat} (hi : i < m + 1) (hun : listed.getD i true = false) {t : Nat} (ht : t ∈ Region.ready md ops listed) : t < m + 1 := by
  refine Decidable.byContradiction fun hge => ?_
  obtain ⟨_, ot, hot, hall⟩ := mem_ready.1 ht
  have hts : t < ops.size := (Array.getElem?_eq_some_iff.1 hot).1
  have h1 := List.all_eq_true.1 hl t (List.mem_range.2 hts)
  simp only [Bool.or_eq_true, decide_eq_true_eq] at h1
  rcases h1 with h1 | h1
  · exact hge h1
  · obtain ⟨j, hj, hw⟩ := List.any_eq_true.1 h1
    simp only [Bool.and_eq_true, decide_eq_true_eq] at hw
    have hjt := List.mem_range.1 hj
    obtain ⟨o', ho', e, he, hb, hon⟩ := Region.waitsFor_spec hw.2
    have ho : o' = ot := Option.some.inj (ho'.symm.trans hot)
    rw [ho] at he
    have h2 := hall e he hb
    rw [hon] at h2
    by_cases hjm : j = m
    · rw [hjm, last_open hs inv _ i rfl (by omega) hun] at h2; cases h2
    · rw [getD_both (inv.tail j (by omega) (by omega))] at h2; cases h2

theorem still_first {m i : Nat} {oi : Oper} {v : Value} {L : Array Bool → Act → Prop} (hi : ops[i]? = some oi) (hsel : ∀ (j : Nat) (o : Oper) cs b, ops[j]? = some o → o.op ≠ .select cs b)
    (hs : Region.sinkB md ops m = true) (hl : lateB md ops (m + 1) = true) (hin : i < m + 1) (hend : ∀ listed a, L listed a → ∀ j ∈ Region.ready md ops listed, m + 1 ≤ j)
    (f : Nat) : ∀ (listed : Array Bool) (a : Act), HeadInv md ops (m + 1) listed →
      (∀ j oj, ops[j]? = some oj → j ≠ i → listed.getD j true = false → (∀ e ∈ oj.after, Region.binds md e = true → e.on ≠ i) → oi.apart ops oj = true) →
      i ∈ Region.ready md ops listed → YieldsAt P ops w oi v a →
      wpAnyL P md ops w (m + 1) L f (listed.setIfInBounds i true) (a.put oi.dst v) → wpAnyL P md ops w (m + 1) L (f + 1) listed a := by
  induction f with
  | zero =>
    intro listed a inv _ hr hy H
    have hun := (mem_ready.1 hr).1
    refine ⟨List.ne_nil_of_mem hr, fun j hj => ⟨late_waits hs hl inv hin hun hj, ?_⟩⟩
    rcases Decidable.em (j = i) with rfl | hji
    · exact hy.stOp hi H
    · exact absurd (late_waits hs hl inv hin hun hj) (Nat.not_lt.2 (hend _ _ H j (ready_mono hj hji)))
  | succ f ih =>
    intro listed a inv hfree hr hy H
    have hun := (mem_ready.1 hr).1
    refine ⟨List.ne_nil_of_mem hr, fun j hj => ?_⟩
    have hjn := late_waits hs hl inv hin hun hj
    refine ⟨hjn, ?_⟩
    rcases Decidable.em (j = i) with rfl | hji
    · exact hy.stOp hi H
    · have hj1 := (H.2 j (ready_mono hj hji)).2
      obtain ⟨hjun, oj, hoj, hall⟩ := mem_ready.1 hj
      have hno : ∀ e ∈ oj.after, Region.binds md e = true → e.on ≠ i := fun e he hb heq => by
        have hx := hall e he hb
        rw [heq, getD_both hun] at hx
        cases hx
      have hcom := stOp_put hoj (hfree j oj hoj hji hjun hno) (fun cs b => hsel i oi cs b hi) (fun cs b => hsel j oj cs b hoj) hy hj1
      refine stOp_mono (fun a' hx => ih (listed.setIfInBounds j true) a' (inv.set hj hjn) (fun k ok hk hki hkun hkno => ?_) (ready_mono hr (Ne.symm hji)) hx.1 ?_) hcom
      · rcases Decidable.em (j = k) with rfl | hjk
        · exact hfree j ok hk hki hjun hkno
        · exact hfree k ok hk hki (by rw [getD_set_ne true hjk] at hkun; exact hkun) hkno
      · rw [Array.setIfInBounds_comm _ _ hji]
        exact hx.2

theorem still_row {m : Nat} {Lq : Act → Prop} {LN : Array Bool} (hsel : Region.noSelect ops = true) (hs : Region.sinkB md ops m = true) (hl : lateB md ops (m + 1) = true)
    (hend : ∀ j ∈ Region.ready md ops LN, m + 1 ≤ j) :
    ∀ (l : List Oper) (k : Nat) (listed : Array Bool) (a : Act), (∀ j, j < l.length → l[j]? = ops[k + j]?) → k + l.length = m + 1 → HeadInv md ops (m + 1) listed →
    inRow md ops l.length k listed = true → marks l.length k listed = LN → wpStill P ops w Lq l a →
    wpAnyL P md ops w (m + 1) (fun listed' a' => listed' = LN ∧ Lq a') l.length listed a
  | [], k, listed, a, _, _, _, _, hm, h => ⟨hm, h⟩
  | o :: l, k, listed, a, hg, hk, inv, hB, hm, h => by
    have h0 : ops[k]? = some o := by simpa using (hg 0 (by simp)).symm
    simp only [List.length_cons, inRow, Bool.and_eq_true] at hB
    obtain ⟨⟨hr, hf⟩, hB'⟩ := hB
    have hkn : k < m + 1 := by simp only [List.length_cons] at hk; omega
    have hr' : k ∈ Region.ready md ops listed := by simpa using hr
    have hst : stOp P ops w k (wpStill P ops w Lq l) a := by unfold stOp; simp only [h0]; exact h
    obtain ⟨v, hy, hK⟩ := yieldsAt_of_stOp h0 hst
    refine still_first h0 (Region.noSelect_spec hsel) hs hl hkn (fun listed' a' hL => by rw [hL.1]; exact hend) l.length listed a inv (Region.free_spec h0 hf) hr' hy ?_
    exact still_row hsel hs hl hend l (k + 1) _ _ (fun j hj => by have := hg (j + 1) (by simp; omega); simpa [Nat.add_assoc, Nat.add_comm 1 j] using this) (by simp only [List.length_cons] at hk; omega) (inv.set hr' hkn) hB' hm hK

/-- The first m + 1 operations leave the world as it is, and each later one waits for number m or for a later one. -/
theorem wp_region_still_head {id : Nat} {Q : Exit → Act → World → Prop} {a : Act} {w : World} {l : List Oper} (m : Nat) (hm : P.follows .mixedOrders = true) (hB : headB .any l.toArray m = true)
    (h : wpStill P l.toArray w.drew (fun a' => wpAny P .any l.toArray Q (l.length - (m + 1)) (marks (m + 1) 0 (Array.replicate l.length false)) a' w.drew) (l.take (m + 1)) a) : (Code.region id l.toArray true).wp P Q a w := by
  simp only [headB, Bool.and_eq_true, decide_eq_true_eq, List.size_toArray] at hB
  obtain ⟨⟨⟨⟨⟨hsel, hn⟩, hs⟩, hlt⟩, hrow⟩, hend⟩ := hB
  have htl : (l.take (m + 1)).length = m + 1 := by simp; omega
  have inv0 : HeadInv .any l.toArray (m + 1) (Array.replicate l.length false) :=
    ⟨by simp, fun j oj _ hl => (by rw [getD_replicate_false] at hl; cases hl), fun t _ ht => getD_in (by simpa using ht) (getD_replicate_false _ _)⟩
  have H := still_row (md := .any) (ops := l.toArray) hsel hs hlt (LN := marks (m + 1) 0 (Array.replicate l.length false)) (fun j hj => by simpa using List.all_eq_true.1 hend j hj) (l.take (m + 1)) 0 _ a
    (fun j hj => by rw [htl] at hj; simp [hj]) (by rw [htl]; omega) inv0 (by rw [htl]; exact hrow) (by rw [htl]) h
  refine wp_region_any hm ?_
  have hgo := wpAny_of_head (Q' := Q) (g := l.length - (m + 1)) (fun listed a' hL => by rw [hL.1]; exact hL.2) _ _ _ H
  rw [htl, show m + 1 + (l.length - (m + 1)) = l.length by omega] at hgo
  exact hgo
end
end Go.Proofs.Ytobelhfhciafcaa
