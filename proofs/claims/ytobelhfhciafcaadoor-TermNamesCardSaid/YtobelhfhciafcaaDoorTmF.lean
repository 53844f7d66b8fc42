/-
  The making of atoms out of lists: the project's and the reference's; a list copied. Conditions: as each says.
-/
import Derived.Test.YtobelhfhciafcaaDoorTmG
import Derived.Test.YtobelhfhciafcaaDoorOwA
import Derived.Laws.AppendOwnNone
namespace Go.Proofs.YtobelhfhciafcaaDoor
open Go.RowKit

theorem termCells_get : ∀ (l : List TermD) (j : Nat) (h : j < l.length), (termCells l)[j * 2]? = some (.bool l[j].v) ∧ (termCells l)[j * 2 + 1]? = some (.string l[j].name)
  | [], j, h => by simp at h
  | x :: l, 0, _ => ⟨rfl, rfl⟩
  | x :: l, j + 1, h => by
    have := termCells_get l j (by simpa using h)
    rw [show (j + 1) * 2 = j * 2 + 2 by omega, show j * 2 + 2 + 1 = (j * 2 + 1) + 2 by omega]
    simpa [termCells] using this
theorem TermsAt.of_row {w : World} {base ca n : Nat} {A : Option Addr} {l : List TermD} (h : w.ownsRow base 24 2 (.slice A n ca) n (termCells l)) : TermsAt w A l := fun j hj => by
  have hn : n = l.length := by have := h.1; rw [termCells_len] at this; omega
  obtain ⟨g, cap, e, ho, hlt, _, _⟩ := row_value h (by omega)
  injection e with e1 e2 e3
  subst e1
  refine ⟨g, 0, rfl, hlt, ?_, ?_⟩
  · rw [Nat.zero_add]; exact row_cell h ho (termCells_get l j hj).1
  · rw [Nat.zero_add]; exact row_cell h ho (termCells_get l j hj).2
theorem ret_slice {A : Option Addr} {a b c : Nat} (h : a = b) : Ending.returned (.slice A a c) = .returned (.slice A b c) := by rw [h]
theorem info_parts2 : ∃ i, Tryd.prog.info? 24 = some i ∧ i.zero = some (.agg #[.bool false, .string ⟨#[]⟩]) ∧ i.size = 2 ∧ i.bytes = 24 := by
  have h : (Tryd.prog.info? 24).map (fun i => (i.zero, i.size, i.bytes)) = some (some (.agg #[.bool false, .string ⟨#[]⟩]), 2, 24) := by kernel_rfl
  cases hq : Tryd.prog.info? 24 with
  | none => rw [hq] at h; cases h
  | some i =>
    rw [hq] at h
    injection h with h
    injection h with h1 h2
    injection h2 with h2 h3
    exact ⟨i, rfl, h1, h2, h3⟩

set_option maxHeartbeats 1000000 in
theorem own_any (A : Option Addr) (l : List TermD) (ca : Nat) (w : World) (h : TermsAt w A l) (hl : l.length ≤ 1000000) (hA : A = none → l = [] ∧ ca = 0) :
    Calls Tryd.prog 21 #[.slice A l.length ca] w fun e w' => (∃ A' c', e = .returned (.slice A' l.length c') ∧ TermsAt w' A' l) ∧ Bel w w' := by
  obtain ⟨i0, hi, hz0, hz1, hz2⟩ := info_parts2
  have ho := World.ownsRow_lit (base := 0) (e := 24) (size := 2) w #[] 0 (Nat.zero_le _) (by unfold maxLen; omega) (by simp)
  have hb0 := bel_alloc w (.cells #[] 24)
  have HT := Lib.hid (h.bel hb0)
  have HO := Lib.hid ho
  clear ho h
  cases A with
  | none =>
    obtain ⟨rfl, rfl⟩ := hA rfl
    simp only [List.length_nil] at *
    go_enter Tryd.func21, Tryd.ntmps21
    go_wp2_with (at_builtin; refine wpList_append_own_none rfl (.tmp 3) (.tmp 4) 40 rfl 0 24 i0 2 Tryd.underlying40 hi (.slice (some ⟨w.heap.size, 0, none⟩) 0 0) 0 [] rfl HO.out rfl ?_)
    go_ret
    exact ⟨⟨_, _, rfl, TermsAt.nil _ _⟩, hb0⟩
  | some ad =>
    clear hA
    have hld : ∀ j u, (termCells l)[j]? = some u → (w.alloc (.cells #[] 24)).cell? (ad.add j) = some u := by
      by_cases h0 : 0 < l.length
      · obtain ⟨b, o, e, _, _⟩ := HT.out.get h0
        injection e with e
        subst e
        exact HT.out.load
      · obtain rfl : l = [] := List.eq_nil_of_length_eq_zero (by omega)
        intro j u hj
        simp [termCells] at hj
    go_enter Tryd.func21, Tryd.ntmps21
    go_wp2_with (at_builtin; refine wpList_append_mine _ rfl (.tmp 3) (.tmp 4) 40 rfl 24 i0 (.agg #[.bool false, .string ⟨#[]⟩]) 2 24 Tryd.underlying40 hi hz0 hz1 hz2 rfl (by decide) (.slice (some ⟨w.heap.size, 0, none⟩) 0 0) 0 [] rfl HO.out ad l.length _ (termCells l) rfl (termCells_len l) hld (termCells_one l) (by unfold maxLen; omega) (by omega) ?_; intro v2 w2 ho2 hf2 hn2; obtain ⟨p2, cap2, rfl, _, _⟩ := row_any ho2; have HE := Lib.hid ho2; have HF := Lib.hid hf2; clear ho2 hf2 hn2)
    go_ret
    refine ⟨⟨_, ⟨_, rfl⟩, TermsAt.of_row (base := 0) (n := 0 + l.length) (by simpa using HE.out)⟩, ?_⟩
    refine Below.trans hb0 (HF.out.below (fun k hk => ?_) (by simp))
    simp [Value.ownBlock] at hk
    omega

def zeroA : AtomD := ⟨⟨#[]⟩, ⟨#[]⟩, 0, zeroT, zeroT, zeroT, zeroT⟩
def madeD (s p : ByteArray) (l : List TermD) : AtomD × Int :=
  if 4 < l.length then (zeroA, 4) else if checkD (storedD s p l) = 0 then (storedD s p l, 0) else (zeroA, checkD (storedD s p l))
theorem made_long {s p : ByteArray} {l : List TermD} (h : 4 < l.length) : madeD s p l = (zeroA, 4) := by unfold madeD; rw [if_pos h]
theorem made_ok {s p : ByteArray} {l : List TermD} (h : ¬ 4 < l.length) (h2 : checkD (storedD s p l) = 0) : madeD s p l = (storedD s p l, 0) := by unfold madeD; rw [if_neg h, if_pos h2]
theorem made_bad {s p : ByteArray} {l : List TermD} (h : ¬ 4 < l.length) (h2 : checkD (storedD s p l) ≠ 0) : madeD s p l = (zeroA, checkD (storedD s p l)) := by unfold madeD; rw [if_neg h, if_neg h2]
theorem storedD_ok {s p : ByteArray} {l : List TermD} (hs : s.size ≤ 9223372036854775807) (hp : p.size ≤ 9223372036854775807) (hl : l.length ≤ 4) (h : ∀ t ∈ l, t.name.size ≤ 9223372036854775807) : AtomOk (storedD s p l) := by
  have hg : ∀ j, (l.getD j zeroT).name.size ≤ 9223372036854775807 := fun j => by
    rw [List.getD_eq_getElem?_getD]
    cases hj : l[j]? with
    | none => show zeroT.name.size ≤ _; decide
    | some t => exact h t (List.mem_of_getElem? hj)
  exact ⟨hs, hp, by unfold storedD; simp only; omega, hg 0, hg 1, hg 2, hg 3⟩
theorem storedD_len {s p : ByteArray} {l : List TermD} : (storedD s p l).n = l.length := rfl

set_option maxRecDepth 20000 in
set_option maxHeartbeats 4000000 in
theorem made_any (s p : ByteArray) (A : Option Addr) (l : List TermD) (ca : Nat) (w : World) (hs : s.size ≤ 9223372036854775807) (hp : p.size ≤ 9223372036854775807) (h : TermsAt w A l) (hl : l.length ≤ 1000000) (hsz : ∀ t ∈ l, t.name.size ≤ 9223372036854775807) (hm : MaxAt w) :
    Calls Tryd.prog 10 #[.string s, .string p, .slice A l.length ca] w fun e w' => (∃ q n, RowKit.Hid ((q, n) = madeD s p l) ∧ e = .returned (.tuple #[.agg #[.string q.says, .string q.pred, .int .i64 q.n, .bool q.t0.v, .string q.t0.name, .bool q.t1.v, .string q.t1.name, .bool q.t2.v, .string q.t2.name, .bool q.t3.v, .string q.t3.name], .int .i64 n])) ∧ Bel w w' := by
  have hZ := AtomAt.new w zeroA
  have hb := bel_alloc w (.cells #[.string zeroA.says, .string zeroA.pred, .int .i64 zeroA.n, .bool zeroA.t0.v, .string zeroA.t0.name, .bool zeroA.t1.v, .string zeroA.t1.name, .bool zeroA.t2.v, .string zeroA.t2.name, .bool zeroA.t3.v, .string zeroA.t3.name] 27)
  simp only [zeroA, zeroT] at hb
  by_cases h4 : 4 < l.length
  · have h5 : (4 : Int) < l.length := by omega
    have HE := Lib.hid (made_long (s := s) (p := p) h4)
    clear h4
    go_enter Tryd.func10, Tryd.ntmps10
    go_wp2
    try simp only [Exit.inBlock, Exit.then]
    refine bodyPost_ret (results_atom2 rfl _ _ _ zeroA rfl hZ) rfl ?_
    exact ⟨⟨_, _, Lib.hid HE.out.symm, rfl⟩, hb⟩
  · have h5 : (l.length : Int) ≤ 4 := by omega
    have HT := Lib.hid h
    have HOK := Lib.hid (storedD_ok hs hp (by omega) hsz)
    have HO := made_ok (s := s) (p := p) h4
    have HB := made_bad (s := s) (p := p) h4
    have h4' : l.length ≤ 4 := by omega
    obtain ⟨q, hq⟩ : ∃ q, q = storedD s p l := ⟨_, rfl⟩
    rw [← hq] at HO HB HOK
    have HQ := Lib.hid hq
    have HO := Lib.hid HO
    have HB := Lib.hid HB
    clear h h4 hq hsz
    rcases Decidable.em (checkD q = 0) with hc | hc
    · have HM := Lib.hid (HO.out hc)
      go_enter Tryd.func10, Tryd.ntmps10
      go_wp2_with (first | (go_at_call 29; refine (stored_any _ _ _ l l.length _ rfl _ (HT.out.bel hb) h4').mono ?_; rintro e w1 ⟨⟨q1, HQ1, rfl⟩, hg⟩; obtain rfl : q1 = q := HQ1.out.trans HQ.out.symm; have hL := AtomAt.new w1 q1; have hZ := (hZ.bel hg).bel (bel_alloc _ (.cells #[.string q1.says, .string q1.pred, .int .i64 q1.n, .bool q1.t0.v, .string q1.t0.name, .bool q1.t1.v, .string q1.t1.name, .bool q1.t2.v, .string q1.t2.name, .bool q1.t3.v, .string q1.t3.name] 27)); have hb := (hb.trans' hg).trans' (bel_alloc _ (.cells #[.string q1.says, .string q1.pred, .int .i64 q1.n, .bool q1.t0.v, .string q1.t0.name, .bool q1.t1.v, .string q1.t1.name, .bool q1.t2.v, .string q1.t2.name, .bool q1.t3.v, .string q1.t3.name] 27)); clear hg) | (go_at_call 13; refine (check_any _ _ HOK.out (hm.bel hb)).mono ?_; rintro e w2 ⟨rfl, hg⟩; have hZ := hZ.bel hg; have hL := hL.bel hg; obtain ⟨c0, c1, c2, c3, c4, c5, c6, c7, c8, c9, c10⟩ := hL.cells; have hb := hb.trans' hg; clear hg) | ((with_reducible refine wpList_store_atom ?_ (.tmp 6) (.tmp 24) ?_ w.heap.size q1 ?_ ?_ hZ ?_); rfl; rfl; rfl; rfl; intro w3 hR hb3 _; have hb := hb.trans hb3; clear hb3))
      try simp only [Exit.inBlock, Exit.then]
      refine bodyPost_ret (results_atom2 rfl _ _ _ _ rfl hR) rfl ?_
      exact ⟨⟨_, _, Lib.hid HM.out.symm, rfl⟩, hb⟩
    · have HM := Lib.hid (HB.out hc)
      have hc2 : (checkD q != 0) = true := by simp [hc]
      go_enter Tryd.func10, Tryd.ntmps10
      go_wp2_with (first | (go_at_call 29; refine (stored_any _ _ _ l l.length _ rfl _ (HT.out.bel hb) h4').mono ?_; rintro e w1 ⟨⟨q1, HQ1, rfl⟩, hg⟩; obtain rfl : q1 = q := HQ1.out.trans HQ.out.symm; have hL := AtomAt.new w1 q1; have hZ := (hZ.bel hg).bel (bel_alloc _ (.cells #[.string q1.says, .string q1.pred, .int .i64 q1.n, .bool q1.t0.v, .string q1.t0.name, .bool q1.t1.v, .string q1.t1.name, .bool q1.t2.v, .string q1.t2.name, .bool q1.t3.v, .string q1.t3.name] 27)); have hb := (hb.trans' hg).trans' (bel_alloc _ (.cells #[.string q1.says, .string q1.pred, .int .i64 q1.n, .bool q1.t0.v, .string q1.t0.name, .bool q1.t1.v, .string q1.t1.name, .bool q1.t2.v, .string q1.t2.name, .bool q1.t3.v, .string q1.t3.name] 27)); clear hg) | (go_at_call 13; refine (check_any _ _ HOK.out (hm.bel hb)).mono ?_; rintro e w2 ⟨rfl, hg⟩; have hZ := hZ.bel hg; have hL := hL.bel hg; obtain ⟨c0, c1, c2, c3, c4, c5, c6, c7, c8, c9, c10⟩ := hL.cells; have hb := hb.trans' hg; clear hg) | ((with_reducible refine wpList_store_atom ?_ (.tmp 6) (.tmp 22) ?_ w.heap.size zeroA ?_ ?_ hZ ?_); rfl; rfl; rfl; rfl; intro w3 hR hb3 _; have hb := hb.trans hb3; clear hb3))
      try simp only [Exit.inBlock, Exit.then]
      refine bodyPost_ret (results_atom2 rfl _ _ _ _ rfl hR) rfl ?_
      exact ⟨⟨_, _, Lib.hid HM.out.symm, rfl⟩, hb⟩
end Go.Proofs.YtobelhfhciafcaaDoor
