/-
  The walks of package intern's table: New, Drop, Text, Find, Uses, Len, also at nil. Conditions: the blocks are the table's own; no use count is near the greatest int.
-/
import Derived.Test.YtobelhfhciafcaaInF
namespace Go.Proofs.Ytobelhfhciafcaa
open Go.RowKit

theorem hasT_true {st : List (ByteArray × Nat)} {n : Int} (h : hasT st n = true) : ∃ (m : Nat) (s : ByteArray) (u : Nat), n = m ∧ st[m]? = some (s, u) ∧ 0 < u := by
  unfold hasT at h
  rw [Bool.and_eq_true, decide_eq_true_eq] at h
  obtain ⟨h0, h1⟩ := h
  refine ⟨n.toNat, ?_⟩
  cases hx : st[n.toNat]? with
  | none => rw [hx] at h1; cases h1
  | some p =>
    rw [hx] at h1
    exact ⟨p.1, p.2, by omega, rfl, by simpa [usedB] using h1⟩

set_option maxHeartbeats 1000000 in
theorem Drop_none (t M : Nat) (tv fv : Value) (f : ByteArray → Option Value) (c : Nat) (st : List (ByteArray × Nat)) (frees : List Int) (n : Int) (w : World) (R : Raw w t M tv fv st.length f c st frees) (h : hasT st n = false) :
    Calls Try.prog 11 #[.pointer (some ⟨t, 0, none⟩), .int .i64 n] w fun e w' => e = .returned (.int .i64 13) ∧ w = w' := by
  have hself := R.self
  have HR := Lib.hid R
  clear R
  go_enter Try.func11, Try.ntmps11
  go_wp2_with (first | (go_at_call 24; refine (made_any t _ hself).mono ?_; rintro e w' ⟨rfl, rfl⟩) | (go_at_call 26; refine (has_any t _ _ tv _ _ st n _ HR.out.blk HR.out.row).mono ?_; rintro e w' ⟨rfl, rfl⟩))
  go_ret
  exact ⟨rfl, rfl⟩

set_option maxHeartbeats 1000000 in
theorem Drop_dec (t M : Nat) (tv fv : Value) (f : ByteArray → Option Value) (c n u : Nat) (st : List (ByteArray × Nat)) (frees : List Int) (s : ByteArray) (w : World) (R : Raw w t M tv fv st.length f c st frees) (hn : st[n]? = some (s, u + 2)) (hu : u + 2 < 4611686018427387904) :
    Calls Try.prog 11 #[.pointer (some ⟨t, 0, none⟩), .int .i64 n] w fun e w' => e = .returned (.int .i64 0) ∧ Raw w' t M tv fv st.length f c (st.set n (s, u + 1)) frees ∧ Fr tv.ownBlock.toList w w' := by
  have hself := R.self
  obtain ⟨k1, k2, htl, f2⟩ := R.cells
  have hnl := (List.getElem?_eq_some_iff.1 hn).1
  have hh : hasT st n = true := by simp [hasT, hn, usedB]
  obtain ⟨g, cap, rfl, _, _, hcap, hmax⟩ := row_value R.row (by omega)
  obtain ⟨cs, ci, fs, fi, hgt⟩ := R.entry hn
  unfold maxLen at hmax
  have hq : (0 : Int) ≤ n := by omega
  have hq2 : (n : Int) < st.length := by omega
  have e0 : (((u + 2 : Nat) : Int)) - 1 = ((u + 1 : Nat) : Int) := by omega
  generalize hv1 : u + 2 = u2 at *
  generalize hv2 : u + 1 = u1 at *
  have hp1 : (((u1 : Nat) : Int) == 0) = false := by simp; omega
  have HR := Lib.hid R
  have HN := Lib.hid hn
  clear R hn hv1 hv2
  go_enter Try.func11, Try.ntmps11
  go_wp2_with (first | (go_at_call 24; refine (made_any t _ hself).mono ?_; rintro e w' ⟨rfl, rfl⟩) | (go_at_call 26; refine (has_any t _ _ _ _ _ st n _ HR.out.blk HR.out.row).mono ?_; rintro e w' ⟨rfl, rfl⟩))
  go_ret
  exact ⟨rfl, HR.out.uses (v := u1) rfl HN.out, Fr.setCell w (p := ⟨g, n * 2 + 1, none⟩) (by simp [Value.ownBlock]) _⟩

set_option maxHeartbeats 2000000 in
theorem Drop_out (t M : Nat) (tv fv : Value) (f : ByteArray → Option Value) (c n : Nat) (st : List (ByteArray × Nat)) (frees : List Int) (s : ByteArray) (w : World) (R : Raw w t M tv fv st.length f c st frees) (hn : st[n]? = some (s, 1)) (hh : HeapN frees frees.length) (hx : frees.length ≤ 90000) (hs : s.size ≤ 300) (hl : st.length ≤ 90000) :
    Calls Try.prog 11 #[.pointer (some ⟨t, 0, none⟩), .int .i64 n] w fun e w' => e = .returned (.int .i64 0) ∧ ∃ (ys : List Int) (fv' : Value), ys.Perm (frees ++ [(n : Int)]) ∧ HeapN ys ys.length ∧
      Raw w' t M tv fv' st.length (delM f s) (lessM f s c) (st.set n (ByteArray.empty, 0)) ys ∧ Fr (t :: M :: (tv.ownBlock.toList ++ fv.ownBlock.toList)) w w' ∧ (∀ g, fv'.ownBlock = some g → fv.ownBlock = some g ∨ w.heap.size ≤ g) := by
  have hself := R.self
  obtain ⟨k1, k2, htl, f2⟩ := R.cells
  have hnl := (List.getElem?_eq_some_iff.1 hn).1
  have hha : hasT st n = true := by simp [hasT, hn, usedB]
  obtain ⟨g, cap, rfl, _, _, hcap, hmax⟩ := row_value R.row (by omega)
  obtain ⟨cs, ci, fs, fi, hgt⟩ := R.entry hn
  have ci1 : w.cell? ⟨g, n * 2 + 1, none⟩ = some (.int .i64 1) := ci
  clear ci
  unfold maxLen at hmax
  have hq : (0 : Int) ≤ n := by omega
  have hq2 : (n : Int) < st.length := by omega
  have HR := Lib.hid R
  have HN := Lib.hid hn
  have HH := Lib.hid hh
  have R1 := R.uses (v := 0) rfl hn
  have HR1 := Lib.hid R1
  clear R hn R1 hh
  go_enter Try.func11, Try.ntmps11
  go_wp2_with (first | (go_at_call 24; refine (made_any t _ hself).mono ?_; rintro e w' ⟨rfl, rfl⟩) | (go_at_call 26; refine (has_any t _ _ _ _ _ st n _ HR.out.blk HR.out.row).mono ?_; rintro e w' ⟨rfl, rfl⟩) | (go_at_call 27; refine (remove_any t M _ fv f c st.length n 0 (st.set n (s, 0)) frees s _ HR1.out (set_get hnl _) HH.out hx hs (by simp; omega)).mono ?_; rintro e w2 ⟨rfl, ys, fv', h2⟩; have H2 := Lib.hid h2; clear h2))
  go_ret
  have h2 := H2.out
  rw [List.set_set] at h2
  refine ⟨rfl, ys, fv', h2.1, h2.2.1, h2.2.2.1, (Fr.setCell w (p := ⟨g, n * 2 + 1, none⟩) (by simp [Value.ownBlock]) _).trans h2.2.2.2.1, ?_⟩
  intro g' hg'
  rcases h2.2.2.2.2 g' hg' with h | h
  · exact .inl h
  · right; simpa using h

theorem Drop_any (t : Nat) (st : List (ByteArray × Nat)) (bs : List Nat) (n : Int) (w : World) (h : Tab w t st bs) (hu : ∀ p ∈ st, p.2 < 4611686018427387904) :
    Calls Try.prog 11 #[.pointer (some ⟨t, 0, none⟩), .int .i64 n] w fun e w' => e = .returned (.int .i64 (dropT st n).2) ∧ TabTo w w' t (dropT st n).1 bs := by
  have h' := h
  obtain ⟨M, tv, fv, f, c, frees, R, G, rfl⟩ := h
  rcases Bool.eq_false_or_eq_true (hasT st n) with hh | hh
  · obtain ⟨m, s, u, rfl, hm, hu0⟩ := hasT_true hh
    have hml := (List.getElem?_eq_some_iff.1 hm).1
    have e : dropT st m = (st.set m (if u = 1 then (ByteArray.empty, 0) else (s, u - 1)), 0) := by
      unfold dropT; rw [if_pos hh]
      rw [show ((m : Nat) : Int).toNat = m by omega, modify_at hm]
    rw [e]
    by_cases h1 : u = 1
    · subst h1
      rw [if_pos rfl]
      have hfl := G.frees_len
      have hl := G.len
      refine (Drop_out t M tv fv f c m st frees s w R hm G.heap (by omega) (by have := (G.siz m s 1 hm (by omega)).2; omega) (by omega)).mono fun e w' ⟨he, ys, fv', hp, hh2, R', hf, hn'⟩ => ⟨he, _, ⟨M, tv, fv', delM f s, c - 1, ys, ?_, G.drop_out hm hp hh2, rfl⟩, hf, ?_⟩
      · have hls : lessM f s c = c - 1 := by
          unfold lessM
          rw [(G.look s _).2 ⟨m, 1, rfl, hm, by omega⟩]; rfl
        rw [hls] at R'
        show Raw w' t M tv fv' (st.set m (ByteArray.empty, 0)).length _ _ _ _
        rw [List.length_set]; exact R'
      · intro b hb
        simp only [List.mem_cons, List.mem_append, Option.mem_toList] at hb ⊢
        rcases hb with h | h | h | h
        · exact .inl (.inl h)
        · exact .inl (.inr (.inl h))
        · exact .inl (.inr (.inr (.inl h)))
        · rcases hn' b h with h | h
          · exact .inl (.inr (.inr (.inr h)))
          · exact .inr h
    · rw [if_neg h1]
      obtain ⟨v, rfl⟩ : ∃ v, u = v + 2 := ⟨u - 2, by omega⟩
      refine (Drop_dec t M tv fv f c m v st frees s w R hm (hu _ (List.mem_of_getElem? hm))).mono fun e w' ⟨he, R', hf⟩ => ⟨he, _, ⟨M, tv, fv, f, c, frees, ?_, G.count_to hm hu0 (by omega), rfl⟩, hf.wider (fun k hk => .inl (by simp only [List.mem_cons, List.mem_append]; exact .inr (.inr (.inl hk)))), fun _ hb => .inl hb⟩
      show Raw w' t M tv fv (st.set m (s, v + 2 - 1)).length _ _ _ _
      rw [List.length_set, show v + 2 - 1 = v + 1 by omega]; exact R'
  · have e : dropT st n = (st, 13) := by unfold dropT; rw [hh]; rfl
    rw [e]
    exact (Drop_none t M tv fv f c st frees n w R hh).mono fun e w' ⟨he, hw⟩ => by subst hw; exact ⟨he, TabTo.same h'⟩
end Go.Proofs.Ytobelhfhciafcaa
