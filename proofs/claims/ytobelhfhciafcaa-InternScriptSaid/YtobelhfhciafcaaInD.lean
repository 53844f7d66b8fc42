/-
  The walks of package intern's table: what lies in memory for a table, a number handed out and taken back, a string added. Conditions: the blocks are the table's own.
-/
import Derived.Test.YtobelhfhciafcaaInC
import Derived.Test.YtobelhfhciafcaaShelf
import Derived.LaidEqlPtr
namespace Go.Proofs.Ytobelhfhciafcaa
open Go.RowKit

theorem ret_int {k : IntKind} {a b : Int} (h : a = b) : Ending.returned (.int k a) = .returned (.int k b) := by rw [h]
def entC (st : List (ByteArray × Nat)) : List Value := st.flatMap (fun p => [.string p.1, .int .i64 (p.2 : Int)])
theorem entC_len (st : List (ByteArray × Nat)) : (entC st).length = st.length * 2 := by
  induction st with
  | nil => rfl
  | cons p r ih => simp only [entC, List.flatMap_cons, List.length_append, List.length_cons, List.length_nil] at ih ⊢; omega
theorem entC_cons (p : ByteArray × Nat) (r : List (ByteArray × Nat)) : entC (p :: r) = .string p.1 :: .int .i64 (p.2 : Int) :: entC r := rfl
theorem entC_at : ∀ {st : List (ByteArray × Nat)} {n : Nat} {s : ByteArray} {u : Nat}, st[n]? = some (s, u) → (entC st)[n * 2]? = some (.string s) ∧ (entC st)[n * 2 + 1]? = some (.int .i64 (u : Int))
  | [], n, s, u, h => by simp at h
  | p :: r, 0, s, u, h => by simp at h; subst h; simp [entC_cons]
  | p :: r, n + 1, s, u, h => by
    have := entC_at (st := r) (n := n) (by simpa using h)
    rw [entC_cons, show (n + 1) * 2 = n * 2 + 1 + 1 by omega]
    simpa using this
theorem entC_snoc (st : List (ByteArray × Nat)) (s : ByteArray) (u : Nat) : entC (st ++ [(s, u)]) = entC st ++ [.string s, .int .i64 (u : Int)] := by simp [entC]
theorem entC_set : ∀ (st : List (ByteArray × Nat)) (n : Nat) (s : ByteArray) (u : Nat), entC (st.set n (s, u)) = ((entC st).set (n * 2) (.string s)).set (n * 2 + 1) (.int .i64 (u : Int))
  | [], n, s, u => by simp [entC]
  | p :: r, 0, s, u => by simp [entC_cons]
  | p :: r, n + 1, s, u => by
    rw [List.set_cons_succ, entC_cons, entC_cons, entC_set r n s u, show (n + 1) * 2 = n * 2 + 1 + 1 by omega]
    simp

/-- the blocks of a table are different ones -/
structure Sep (t M : Nat) (tv fv : Value) : Prop where
  tM : t ≠ M
  tt : t ∉ tv.ownBlock.toList
  tf : t ∉ fv.ownBlock.toList
  Mt : M ∉ tv.ownBlock.toList
  Mf : M ∉ fv.ownBlock.toList
  vf : ∀ g ∈ tv.ownBlock.toList, g ∉ fv.ownBlock.toList

/-- what lies in memory for a table -/
structure Raw (w : World) (t M : Nat) (tv fv : Value) (nx : Nat) (f : ByteArray → Option Value) (c : Nat) (ents : List (ByteArray × Nat)) (frees : List Int) : Prop where
  blk : w.heap[t]? = some (.cells #[.pointer (some ⟨t, 0, none⟩), .map (some M), tv, fv, .int .i64 (nx : Int)] 56 (0, 0))
  map : SMap w M f c
  row : w.ownsRow 0 62 2 tv ents.length (entC ents)
  fre : w.ownsRow 0 3 1 fv frees.length (ints frees)
  sep : Sep t M tv fv

theorem Raw.fr {w w' : World} {t M : Nat} {tv fv : Value} {nx : Nat} {f : ByteArray → Option Value} {c : Nat} {ents : List (ByteArray × Nat)} {frees : List Int} (R : Raw w t M tv fv nx f c ents frees) {F : List Nat} (h : Fr F w w')
    (hn : ∀ b ∈ t :: M :: (tv.ownBlock.toList ++ fv.ownBlock.toList), b ∉ F) : Raw w' t M tv fv nx f c ents frees :=
  ⟨h.at (hn t (by simp)) R.blk, R.map.fr h (hn M (by simp)), h.owns R.row (fun k hk => hn k (by simp [hk])), h.owns R.fre (fun k hk => hn k (by simp [hk])), R.sep⟩
/-- a new row for the strings, and its value stored -/
theorem Raw.newrow {w w' : World} {t M : Nat} {tv fv tv2 : Value} {nx : Nat} {f : ByteArray → Option Value} {c : Nat} {ents ents2 : List (ByteArray × Nat)} {frees : List Int} (R : Raw w t M tv fv nx f c ents frees) (h : Fr tv.ownBlock.toList w w')
    (ho : w'.ownsRow 0 62 2 tv2 ents2.length (entC ents2)) (hn : ∀ g, tv2.ownBlock = some g → tv.ownBlock = some g ∨ w.heap.size ≤ g) : Raw (w'.setCell ⟨t, 2, none⟩ tv2) t M tv2 fv nx f c ents2 frees := by
  have ht := lt_of_at R.blk
  have hM := R.map.lt
  have h1 : t ∉ tv2.ownBlock.toList := new_not hn R.sep.tt ht
  have h2 : M ∉ tv2.ownBlock.toList := new_not hn R.sep.Mt hM
  have h3 : ∀ g ∈ tv2.ownBlock.toList, g ∉ fv.ownBlock.toList := fun g hg hf => by
    rcases hn g (by simpa using hg) with h | h
    · exact R.sep.vf g (by simp [h]) hf
    · have := row_lt R.fre (by simpa using hf); omega
  refine ⟨blk_set (h.at R.sep.tt R.blk) _, (R.map.fr h R.sep.Mt).fr (Fr.setCell (F := [t]) _ (by simp) _) (by simp; exact Ne.symm R.sep.tM), row_set_other ho (fun e => h1 (by simp [e])) _, ?_, ⟨R.sep.tM, h1, R.sep.tf, h2, R.sep.Mf, h3⟩⟩
  exact row_set_other (h.owns R.fre (fun k hk hm => R.sep.vf k hm (by simp [hk]))) (fun e => R.sep.tf (by simp [e])) _
/-- an entry stored -/
theorem Raw.put {w : World} {t M g n cap len u : Nat} {s : ByteArray} {fv : Value} {nx : Nat} {f : ByteArray → Option Value} {c : Nat} {ents : List (ByteArray × Nat)} {frees : List Int} (R : Raw w t M (.slice (some ⟨g, 0, none⟩) len cap) fv nx f c ents frees) (hl : len = ents.length) :
    Raw ((w.setCell ⟨g, n * 2, none⟩ (.string s)).setCell ⟨g, n * 2 + 1, none⟩ (.int .i64 (u : Int))) t M (.slice (some ⟨g, 0, none⟩) len cap) fv nx f c (ents.set n (s, u)) frees := by
  subst hl
  have hf : Fr [g] w ((w.setCell ⟨g, n * 2, none⟩ (.string s)).setCell ⟨g, n * 2 + 1, none⟩ (.int .i64 (u : Int))) := (Fr.setCell w (by simp) _).trans (Fr.setCell _ (by simp) _)
  have hn : ∀ b, b ≠ g → b ∉ [g] := fun b hb hm => hb (by simpa using hm)
  have tg : t ≠ g := fun e => R.sep.tt (by simp [Value.ownBlock, e])
  have Mg : M ≠ g := fun e => R.sep.Mt (by simp [Value.ownBlock, e])
  refine ⟨hf.at (hn t tg) R.blk, R.map.fr hf (hn M Mg), ?_, hf.owns R.fre (fun k hk => hn k (by rintro rfl; exact R.sep.vf k (by simp [Value.ownBlock]) (by simp [hk]))), R.sep⟩
  have s1 := R.row.stored (n * 2) (.string s)
  have s2 := s1.1.stored (n * 2 + 1) (.int .i64 (u : Int))
  rw [entC_set, List.length_set]
  exact s2.1
/-- a use count stored -/
theorem Raw.uses {w : World} {t M g n cap len u v : Nat} {s : ByteArray} {fv : Value} {nx : Nat} {f : ByteArray → Option Value} {c : Nat} {ents : List (ByteArray × Nat)} {frees : List Int} (R : Raw w t M (.slice (some ⟨g, 0, none⟩) len cap) fv nx f c ents frees) (hl : len = ents.length) (hn : ents[n]? = some (s, u)) :
    Raw (w.setCell ⟨g, n * 2 + 1, none⟩ (.int .i64 (v : Int))) t M (.slice (some ⟨g, 0, none⟩) len cap) fv nx f c (ents.set n (s, v)) frees := by
  have h := R.put (n := n) (s := s) (u := v) hl
  subst hl
  have hf : Fr [g] w (w.setCell ⟨g, n * 2 + 1, none⟩ (.int .i64 (v : Int))) := Fr.setCell w (by simp) _
  have hb : ∀ b, b ≠ g → b ∉ [g] := fun b hb hm => hb (by simpa using hm)
  have tg : t ≠ g := fun e => R.sep.tt (by simp [Value.ownBlock, e])
  have Mg : M ≠ g := fun e => R.sep.Mt (by simp [Value.ownBlock, e])
  refine ⟨hf.at (hb t tg) R.blk, R.map.fr hf (hb M Mg), ?_, hf.owns R.fre (fun k hk => hb k (by rintro rfl; exact R.sep.vf k (by simp [Value.ownBlock]) (by simp [hk]))), R.sep⟩
  have s2 := R.row.stored (n * 2 + 1) (.int .i64 (v : Int))
  have e : (entC ents).set (n * 2) (.string s) = entC ents := by
    apply List.ext_getElem?
    intro i
    rw [List.getElem?_set]
    split
    · rename_i h; subst h
      rw [if_pos (by rw [entC_len]; have := (List.getElem?_eq_some_iff.1 hn).1; omega), (entC_at hn).1]
    · rfl
  rw [entC_set, List.length_set, e]
  exact s2.1

set_option maxHeartbeats 1000000 in
theorem take_pop (t : Nat) (c0 c1 c2 v c4 : Value) (xs : List Int) (w : World) (hb : w.heap[t]? = some (.cells #[c0, c1, c2, v, c4] 56 (0, 0))) (h : w.ownsRow 0 3 1 v xs.length (ints xs)) (hne : t ∉ v.ownBlock.toList)
    (hh : HeapN xs xs.length) (h0 : 0 < xs.length) (hx : xs.length ≤ 90000) :
    Calls Try.prog 30 #[.pointer (some ⟨t, 3, none⟩)] w fun e w' => ∃ x, e = .returned (.int .i64 x) ∧ ∃ (v' : Value) (zs : List Int), (zs ++ [x]).Perm xs ∧ HeapN zs zs.length ∧ (∀ y ∈ zs, x ≤ y) ∧
      w'.heap[t]? = some (.cells #[c0, c1, c2, v', c4] 56 (0, 0)) ∧ w'.ownsRow 0 3 1 v' zs.length (ints zs) ∧ Fr (t :: v.ownBlock.toList) w w' ∧ v'.ownBlock = v.ownBlock := by
  obtain ⟨_, _, _, k3, _, htl⟩ := blk5 hb
  obtain ⟨g, cap, rfl, hg, hlt, hcap, hmax⟩ := row_value h h0
  have HB := Lib.hid hb
  have HO := Lib.hid h
  have HH := Lib.hid hh
  have HNE := Lib.hid hne
  clear hb h hh hne hg
  go_enter Try.func30, Try.ntmps30
  go_wp2_with (first | (go_at_call 35; refine (fLen_any _ _ _ _).mono ?_; rintro e w' ⟨rfl, rfl⟩) | (go_at_call 36; refine (hPop_any t c0 c1 c2 _ c4 xs _ HB.out HO.out HNE.out HH.out h0 (by omega)).mono ?_; rintro e w2 ⟨x, rfl, h2⟩; have H2 := Lib.hid h2; have ta := ta_int x; clear h2))
  go_ret
  exact ⟨x, rfl, H2.out⟩

theorem fLen_zero (p : Option Addr) (c : Nat) (w : World) : Calls Try.prog 35 #[.slice p 0 c] w fun e w' => e = .returned (.int .i64 0) ∧ w = w' := fLen_any p 0 c w
set_option maxHeartbeats 1000000 in
theorem take_next (t : Nat) (c0 c1 c2 v : Value) (nx : Nat) (w : World) (hb : w.heap[t]? = some (.cells #[c0, c1, c2, v, .int .i64 nx] 56 (0, 0))) (h : w.ownsRow 0 3 1 v 0 []) (hx : nx ≤ 90000) :
    Calls Try.prog 30 #[.pointer (some ⟨t, 3, none⟩)] w fun e w' => e = .returned (.int .i64 nx) ∧ w'.heap[t]? = some (.cells #[c0, c1, c2, v, .int .i64 ((nx + 1 : Nat) : Int)] 56 (0, 0)) ∧ Fr [t] w w' := by
  obtain ⟨_, _, _, k3, k4, htl⟩ := blk5 hb
  have f4 := blk_frozen hb 4
  obtain ⟨p, cap, rfl, hcap, hmax⟩ := row_any h
  have HB := Lib.hid hb
  clear hb h
  go_enter Try.func30, Try.ntmps30
  go_wp2_with (first | (go_at_call 35; refine (fLen_zero _ _ _).mono ?_; rintro e w' ⟨rfl, rfl⟩))
  exact bodyPost_ret (v := .int .i64 nx) (by simp [results, Try.results30, go_sem]) rfl ⟨rfl, blk_set HB.out _, Fr.setCell w (p := ⟨t, 4, none⟩) (by simp) _⟩

set_option maxHeartbeats 1000000 in
theorem give_any (t : Nat) (c0 c1 c2 v c4 : Value) (xs : List Int) (x : Int) (w : World) (hb : w.heap[t]? = some (.cells #[c0, c1, c2, v, c4] 56 (0, 0))) (h : w.ownsRow 0 3 1 v xs.length (ints xs)) (hne : t ∉ v.ownBlock.toList)
    (hh : HeapN xs xs.length) (hx : xs.length ≤ 90000) :
    Calls Try.prog 32 #[.pointer (some ⟨t, 3, none⟩), .int .i64 x] w fun e w' => e = .returned (.tuple #[]) ∧ ∃ (v' : Value) (ys : List Int), ys.Perm (xs ++ [x]) ∧ HeapN ys ys.length ∧
      w'.heap[t]? = some (.cells #[c0, c1, c2, v', c4] 56 (0, 0)) ∧ w'.ownsRow 0 3 1 v' ys.length (ints ys) ∧ Fr (t :: v.ownBlock.toList) w w' ∧ (∀ g, v'.ownBlock = some g → v.ownBlock = some g ∨ w.heap.size ≤ g) := by
  have HB := Lib.hid hb
  have HO := Lib.hid h
  have HH := Lib.hid hh
  have HNE := Lib.hid hne
  clear hb h hh hne
  go_enter Try.func32, Try.ntmps32
  go_wp2_with (first | (go_at_call 38; refine (hPush_any t c0 c1 c2 v c4 xs x _ HB.out HO.out HNE.out HH.out hx).mono ?_; rintro e w2 ⟨rfl, h2⟩; have H2 := Lib.hid h2; clear h2))
  go_end0
  exact ⟨rfl, H2.out⟩

theorem eql_self (t : Nat) (w : World) : (binOp .eql 25 (.pointer (some ⟨t, 0, none⟩)) (.pointer (some ⟨t, 0, none⟩))).run Try.prog w = .ok (.bool true) w := by
  obtain ⟨j, hj⟩ := info_of_underlying Try.underlying56
  exact run_eql_ptr_same w _ Try.underlying25 hj
theorem made_any (t : Nat) (w : World) (h : w.cell? ⟨t, 0, none⟩ = some (.pointer (some ⟨t, 0, none⟩))) : Calls Try.prog 24 #[.pointer (some ⟨t, 0, none⟩)] w fun e w' => e = .returned (.bool true) ∧ w = w' := by
  have q : (binOp .eql 25 (.pointer (some ⟨t, 0, none⟩)) (.pointer (some ⟨t, 0, none⟩))).run Try.prog w = .ok (.bool true) w := eql_self t w
  go_enter Try.func24, Try.ntmps24
  go_wp2
  go_ret
  exact ⟨rfl, rfl⟩
theorem made_nil (w : World) : Calls Try.prog 24 #[.pointer none] w fun e w' => e = .returned (.bool false) ∧ w = w' := by
  go_enter Try.func24, Try.ntmps24
  go_wp2
  go_ret
  exact ⟨rfl, rfl⟩

set_option maxHeartbeats 1000000 in
theorem has_any (t : Nat) (c0 c1 tv c3 c4 : Value) (ents : List (ByteArray × Nat)) (n : Int) (w : World) (hb : w.heap[t]? = some (.cells #[c0, c1, tv, c3, c4] 56 (0, 0))) (h : w.ownsRow 0 62 2 tv ents.length (entC ents)) :
    Calls Try.prog 26 #[.pointer (some ⟨t, 0, none⟩), .int .i64 n] w fun e w' => e = .returned (.bool (hasT ents n)) ∧ w = w' := by
  obtain ⟨_, _, k2, _, _, htl⟩ := blk5 hb
  obtain ⟨p, cap, rfl, hcap, hmax⟩ := row_any h
  unfold maxLen at hmax
  by_cases h0 : 0 ≤ n
  · obtain ⟨m, rfl⟩ : ∃ m : Nat, n = m := ⟨n.toNat, by omega⟩
    by_cases h1 : m < ents.length
    · obtain ⟨g, cap', e, hg, hlt, _, _⟩ := row_value h (by omega)
      injection e with e1 _ e2
      subst e1
      have h3 : ents[m]? = some (ents[m].1, ents[m].2) := by rw [List.getElem?_eq_getElem h1]
      have cc := row_cell h hg (entC_at h3).2
      have HN : RowKit.Hid (hasT ents m = decide (0 < ents[m].2)) := Lib.hid (by simp [hasT, h1, usedB])
      generalize ents[m].2 = u at *
      clear h3 hb h hg
      by_cases hu : 0 < u
      · go_enter Try.func26, Try.ntmps26
        go_wp2
        go_ret
        exact ⟨by rw [HN.out]; simp [hu], rfl⟩
      · obtain rfl : u = 0 := by omega
        go_enter Try.func26, Try.ntmps26
        go_wp2
        go_ret
        exact ⟨by rw [HN.out]; simp, rfl⟩
    · have HN : RowKit.Hid (hasT ents m = false) := Lib.hid (by simp [hasT, show ents.length ≤ m by omega])
      clear hb h
      go_enter Try.func26, Try.ntmps26
      go_wp2
      go_ret
      exact ⟨by rw [HN.out]; rfl, rfl⟩
  · have HN : RowKit.Hid (hasT ents n = false) := Lib.hid (by simp [hasT]; intro h; omega)
    clear hb h
    go_enter Try.func26, Try.ntmps26
    go_wp2
    go_ret
    exact ⟨by rw [HN.out]; rfl, rfl⟩

set_option maxHeartbeats 1000000 in
theorem strclone_any (s : ByteArray) (w : World) (hs : s.size ≤ 281474976710656) : Calls Try.prog 31 #[.string s] w fun e w' => e = .returned (.string s) ∧ Below w.heap.size w w' := by
  go_enter Try.func31, Try.ntmps31
  go_wp2_with (first | (go_at_call 37; refine (Try.stringslite_Clone _ _ hs).mono ?_; rintro e w1 ⟨rfl, hb⟩))
  go_ret
  exact ⟨rfl, hb⟩
end Go.Proofs.Ytobelhfhciafcaa
