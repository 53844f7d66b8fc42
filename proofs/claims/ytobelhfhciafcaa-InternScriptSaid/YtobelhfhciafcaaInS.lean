/-
  The walks of the reference's table of strings: Text, Uses, Drop, New, and Take but for a string at the end. Conditions: the blocks are the table's own; no use count is near the greatest int.
-/
import Derived.Test.YtobelhfhciafcaaInR
namespace Go.Proofs.Ytobelhfhciafcaa
open Go.RowKit

set_option maxHeartbeats 1000000 in
theorem rText_any (o : Nat) (tv mv : Value) (st : List (ByteArray × Nat)) (n : Int) (w : World) (R : RRaw w o tv mv st) (hwf : WF st) :
    Calls Try.prog 14 #[.pointer (some ⟨o, 0, none⟩), .int .i64 n] w fun e w' => e = .returned (.tuple #[.string (textT st n), .int .i64 (textE st n)]) ∧ w = w' := by
  obtain ⟨k0, k1, hol, _, _⟩ := blk2 R.blk
  obtain ⟨p, cap, rfl, hcap, hmax⟩ := row_any R.rs
  unfold maxLen at hmax
  have HR := Lib.hid R
  have HW := Lib.hid hwf
  rcases Bool.eq_false_or_eq_true (hasT st n) with hh | hh
  · obtain ⟨m, s, u, rfl, hm, hu0⟩ := hasT_true hh
    have HT : RowKit.Hid (textT st m = s ∧ textE st m = 0) := Lib.hid (by simp [textT, textE, hh, hm])
    have hml := (List.getElem?_eq_some_iff.1 hm).1
    obtain ⟨g, rfl, cc, _, _, _⟩ := R.text hm
    have hq : (0 : Int) ≤ m := by omega
    have hq2 : (m : Int) < st.length := by omega
    clear R hm hwf
    go_enter Try.func14, Try.ntmps14
    go_wp2_with (first | (go_at_call 28; refine (rhas_any o _ _ st m _ HR.out HW.out).mono ?_; rintro e w' ⟨rfl, rfl⟩))
    go_ret2
    exact ⟨by rw [HT.out.1, HT.out.2]; rfl, rfl⟩
  · have HT : RowKit.Hid (textT st n = ByteArray.empty ∧ textE st n = 13) := Lib.hid (by simp [textT, textE, hh])
    clear R hwf
    go_enter Try.func14, Try.ntmps14
    go_wp2_with (first | (go_at_call 28; refine (rhas_any o _ _ st n _ HR.out HW.out).mono ?_; rintro e w' ⟨rfl, rfl⟩))
    go_ret2
    exact ⟨by rw [HT.out.1, HT.out.2]; rfl, rfl⟩

set_option maxHeartbeats 1000000 in
theorem rUses_any (o : Nat) (tv mv : Value) (st : List (ByteArray × Nat)) (n : Int) (w : World) (R : RRaw w o tv mv st) (hwf : WF st) :
    Calls Try.prog 19 #[.pointer (some ⟨o, 0, none⟩), .int .i64 n] w fun e w' => e = .returned (.int .i64 (usesT st n)) ∧ w = w' := by
  obtain ⟨k0, k1, hol, _, _⟩ := blk2 R.blk
  obtain ⟨p, cap, rfl, hcap, hmax⟩ := row_any R.rt
  unfold maxLen at hmax
  have HR := Lib.hid R
  have HW := Lib.hid hwf
  rcases Bool.eq_false_or_eq_true (hasT st n) with hh | hh
  · obtain ⟨m, s, u, rfl, hm, hu0⟩ := hasT_true hh
    have HT : RowKit.Hid (usesT st m = u) := Lib.hid (by simp [usesT, hh, hm])
    have hml := (List.getElem?_eq_some_iff.1 hm).1
    obtain ⟨g, rfl, cc, _, _, _⟩ := R.time hm
    have hq : (0 : Int) ≤ m := by omega
    have hq2 : (m : Int) < st.length := by omega
    clear R hm hwf
    go_enter Try.func19, Try.ntmps19
    go_wp2_with (first | (go_at_call 28; refine (rhas_any o _ _ st m _ HR.out HW.out).mono ?_; rintro e w' ⟨rfl, rfl⟩))
    go_ret
    exact ⟨by rw [HT.out]; rfl, rfl⟩
  · have HT : RowKit.Hid (usesT st n = 0) := Lib.hid (by simp [usesT, hh])
    clear R hwf
    go_enter Try.func19, Try.ntmps19
    go_wp2_with (first | (go_at_call 28; refine (rhas_any o _ _ st n _ HR.out HW.out).mono ?_; rintro e w' ⟨rfl, rfl⟩))
    go_ret
    exact ⟨by rw [HT.out]; rfl, rfl⟩

theorem strs_set (st : List (ByteArray × Nat)) (n u : Nat) (s : ByteArray) : strs (st.set n (s, u)) = (strs st).set n (.string s) := by simp [strs, List.map_set]
theorem nums_set (st : List (ByteArray × Nat)) (n u : Nat) (s : ByteArray) : nums (st.set n (s, u)) = (nums st).set n (.int .i64 (u : Int)) := by simp [nums, List.map_set]
theorem strs_same {st : List (ByteArray × Nat)} {n u v : Nat} {s : ByteArray} (h : st[n]? = some (s, u)) : strs (st.set n (s, v)) = strs st := by
  rw [strs_set]
  apply List.ext_getElem?
  intro i
  rw [List.getElem?_set]
  split
  · rename_i e; subst e
    rw [if_pos (by have := (List.getElem?_eq_some_iff.1 h).1; simpa [strs] using this), strs_at h]
  · rfl
/-- a count stored -/
theorem RRaw.setTime {w : World} {o n u v g len cap : Nat} {tv : Value} {st : List (ByteArray × Nat)} {s : ByteArray} (R : RRaw w o tv (.slice (some ⟨g, 0, none⟩) len cap) st) (hl : len = st.length) (h : st[n]? = some (s, u)) : RRaw (w.setCell ⟨g, n, none⟩ (.int .i64 (v : Int))) o tv (.slice (some ⟨g, 0, none⟩) len cap) (st.set n (s, v)) := by
  subst hl
  have hf : Fr [g] w (w.setCell ⟨g, n, none⟩ (.int .i64 (v : Int))) := Fr.setCell w (by simp) _
  have og : o ≠ g := fun e => R.sm (by simp [Value.ownBlock, e])
  refine ⟨hf.at (by simpa using og) R.blk, ?_, ?_, R.st, R.sm, R.sd⟩
  · rw [strs_same h, List.length_set]
    exact hf.owns R.rs (fun k hk hm => R.sd k (by simp [hk]) (by simpa [Value.ownBlock, eq_comm] using hm))
  · rw [nums_set, List.length_set]
    exact (R.rt.stored n _).1
theorem nums_same {st : List (ByteArray × Nat)} {n u : Nat} {s x : ByteArray} (h : st[n]? = some (s, u)) : nums (st.set n (x, u)) = nums st := by
  rw [nums_set]
  apply List.ext_getElem?
  intro i
  rw [List.getElem?_set]
  split
  · rename_i e; subst e
    rw [if_pos (by have := (List.getElem?_eq_some_iff.1 h).1; simpa [nums] using this), nums_at h]
  · rfl
/-- a string stored -/
theorem RRaw.setText {w : World} {o n u g len cap : Nat} {mv : Value} {st : List (ByteArray × Nat)} {s x : ByteArray} (R : RRaw w o (.slice (some ⟨g, 0, none⟩) len cap) mv st) (hl : len = st.length) (h : st[n]? = some (s, u)) : RRaw (w.setCell ⟨g, n, none⟩ (.string x)) o (.slice (some ⟨g, 0, none⟩) len cap) mv (st.set n (x, u)) := by
  subst hl
  have hf : Fr [g] w (w.setCell ⟨g, n, none⟩ (.string x)) := Fr.setCell w (by simp) _
  have og : o ≠ g := fun e => R.st (by simp [Value.ownBlock, e])
  refine ⟨hf.at (by simpa using og) R.blk, ?_, ?_, R.st, R.sm, R.sd⟩
  · rw [strs_set, List.length_set]
    exact (R.rs.stored n _).1
  · rw [nums_same h, List.length_set]
    exact hf.owns R.rt (fun k hk hm => R.sd g (by simp [Value.ownBlock]) (by simp at hm; subst hm; simp [hk]))
/-- a string and its count stored -/
theorem RRaw.setBoth {w : World} {o n v g g2 len cap len2 cap2 : Nat} {st : List (ByteArray × Nat)} {s : ByteArray} (R : RRaw w o (.slice (some ⟨g, 0, none⟩) len cap) (.slice (some ⟨g2, 0, none⟩) len2 cap2) st) (hl : len = st.length) (hl2 : len2 = st.length) :
    RRaw ((w.setCell ⟨g, n, none⟩ (.string s)).setCell ⟨g2, n, none⟩ (.int .i64 (v : Int))) o (.slice (some ⟨g, 0, none⟩) len cap) (.slice (some ⟨g2, 0, none⟩) len2 cap2) (st.set n (s, v)) := by
  subst hl
  subst hl2
  have og : o ≠ g := fun e => R.st (by simp [Value.ownBlock, e])
  have og2 : o ≠ g2 := fun e => R.sm (by simp [Value.ownBlock, e])
  have gg : g ≠ g2 := fun e => R.sd g (by simp [Value.ownBlock]) (by simp [Value.ownBlock, e])
  have hf1 : Fr [g] w (w.setCell ⟨g, n, none⟩ (.string s)) := Fr.setCell w (by simp) _
  have hf2 : Fr [g2] (w.setCell ⟨g, n, none⟩ (.string s)) ((w.setCell ⟨g, n, none⟩ (.string s)).setCell ⟨g2, n, none⟩ (.int .i64 (v : Int))) := Fr.setCell _ (by simp) _
  refine ⟨hf2.at (by simpa using og2) (hf1.at (by simpa using og) R.blk), ?_, ?_, R.st, R.sm, R.sd⟩
  · rw [strs_set, List.length_set]
    exact hf2.owns (R.rs.stored n _).1 (fun k hk hm => gg (by simp [Value.ownBlock] at hk hm; omega))
  · rw [nums_set, List.length_set]
    exact ((hf1.owns R.rt (fun k hk hm => gg (by simp [Value.ownBlock] at hk hm; omega))).stored n _).1

set_option maxHeartbeats 1000000 in
theorem rDrop_none (o : Nat) (tv mv : Value) (st : List (ByteArray × Nat)) (n : Int) (w : World) (R : RRaw w o tv mv st) (hwf : WF st) (h : hasT st n = false) :
    Calls Try.prog 12 #[.pointer (some ⟨o, 0, none⟩), .int .i64 n] w fun e w' => e = .returned (.int .i64 13) ∧ w = w' := by
  go_enter Try.func12, Try.ntmps12
  go_wp2_with (first | (go_at_call 28; refine (rhas_any o _ _ st n _ R hwf).mono ?_; rintro e w' ⟨rfl, rfl⟩))
  go_ret
  exact ⟨rfl, rfl⟩
set_option maxHeartbeats 1000000 in
theorem rDrop_dec (o : Nat) (tv mv : Value) (st : List (ByteArray × Nat)) (n u : Nat) (s : ByteArray) (w : World) (R : RRaw w o tv mv st) (hwf : WF st) (hn : st[n]? = some (s, u + 2)) (hu : u + 2 < 4611686018427387904) :
    Calls Try.prog 12 #[.pointer (some ⟨o, 0, none⟩), .int .i64 n] w fun e w' => e = .returned (.int .i64 0) ∧ RRaw w' o tv mv (st.set n (s, u + 1)) ∧ Fr mv.ownBlock.toList w w' := by
  obtain ⟨k0, k1, hol, _, _⟩ := blk2 R.blk
  obtain ⟨p, cap, rfl, hcap, hmax⟩ := row_any R.rt
  unfold maxLen at hmax
  have hnl := (List.getElem?_eq_some_iff.1 hn).1
  have hh : hasT st n = true := by simp [hasT, hn, usedB]
  obtain ⟨g, rfl, cc, ff, go, _⟩ := R.time hn
  have hq : (0 : Int) ≤ n := by omega
  have hq2 : (n : Int) < st.length := by omega
  have e0 : (((u + 2 : Nat) : Int)) - 1 = ((u + 1 : Nat) : Int) := by omega
  generalize hv1 : u + 2 = u2 at *
  generalize hv2 : u + 1 = u1 at *
  have hp1 : (((u1 : Nat) : Int) == 0) = false := by simp; omega
  have HR := Lib.hid R
  have HN := Lib.hid hn
  have HW := Lib.hid hwf
  clear R hn hv1 hv2 hwf
  go_enter Try.func12, Try.ntmps12
  go_wp2_with (first | (go_at_call 28; refine (rhas_any o _ _ st n _ HR.out HW.out).mono ?_; rintro e w' ⟨rfl, rfl⟩))
  go_ret
  exact ⟨rfl, HR.out.setTime (v := u1) rfl HN.out, Fr.setCell w (p := ⟨g, n, none⟩) (by simp [Value.ownBlock]) _⟩
set_option maxHeartbeats 1000000 in
theorem rDrop_out (o : Nat) (tv mv : Value) (st : List (ByteArray × Nat)) (n : Nat) (s : ByteArray) (w : World) (R : RRaw w o tv mv st) (hwf : WF st) (hn : st[n]? = some (s, 1)) :
    Calls Try.prog 12 #[.pointer (some ⟨o, 0, none⟩), .int .i64 n] w fun e w' => e = .returned (.int .i64 0) ∧ RRaw w' o tv mv (st.set n (ByteArray.empty, 0)) ∧ Fr (tv.ownBlock.toList ++ mv.ownBlock.toList) w w' := by
  obtain ⟨k0, k1, hol, _, _⟩ := blk2 R.blk
  obtain ⟨p, cap, rfl, hcap, hmax⟩ := row_any R.rt
  obtain ⟨p2, cap2, rfl, hcap2, hmax2⟩ := row_any R.rs
  unfold maxLen at hmax hmax2
  have hnl := (List.getElem?_eq_some_iff.1 hn).1
  have hh : hasT st n = true := by simp [hasT, hn, usedB]
  obtain ⟨g, rfl, cc, ff, go, _⟩ := R.time hn
  obtain ⟨g2, rfl, cc2, ff2, go2, _⟩ := R.text hn
  have cc1 : w.cell? ⟨g, n, none⟩ = some (.int .i64 1) := cc
  clear cc
  have hgg : g ≠ g2 := fun e => R.sd g (by simp [Value.ownBlock, e]) (by simp [Value.ownBlock])
  have hgg' : g2 ≠ g := Ne.symm hgg
  have hq : (0 : Int) ≤ n := by omega
  have hq2 : (n : Int) < st.length := by omega
  have R1 := R.setTime (v := 0) rfl hn
  have HR := Lib.hid R
  have HR1 := Lib.hid R1
  have HW := Lib.hid hwf
  clear R hn hwf R1
  go_enter Try.func12, Try.ntmps12
  go_wp2_with (first | (go_at_call 28; refine (rhas_any o _ _ st n _ HR.out HW.out).mono ?_; rintro e w' ⟨rfl, rfl⟩))
  go_ret
  have R2 := HR1.out.setText (x := ByteArray.empty) (by simp) (set_get hnl (s, 0))
  rw [List.set_set] at R2
  exact ⟨rfl, R2, (Fr.setCell (F := _) w (p := ⟨g, n, none⟩) (by simp [Value.ownBlock]) _).trans (Fr.setCell _ (p := ⟨g2, n, none⟩) (by simp [Value.ownBlock]) _)⟩

/-- the reference's table with the entries st, in the blocks bs -/
def RTab (w : World) (o : Nat) (st : List (ByteArray × Nat)) (bs : List Nat) : Prop :=
  ∃ tv mv : Value, RRaw w o tv mv st ∧ WF st ∧ bs = o :: (tv.ownBlock.toList ++ mv.ownBlock.toList)
theorem RTab.fr {w w' : World} {o : Nat} {st : List (ByteArray × Nat)} {bs F : List Nat} (h : RTab w o st bs) (hf : Fr F w w') (hn : ∀ b ∈ bs, b ∉ F) : RTab w' o st bs := by
  obtain ⟨tv, mv, R, hw, rfl⟩ := h
  exact ⟨tv, mv, R.fr hf hn, hw, rfl⟩
theorem RTab.lt {w : World} {o : Nat} {st : List (ByteArray × Nat)} {bs : List Nat} (h : RTab w o st bs) : ∀ b ∈ bs, b < w.heap.size := by
  obtain ⟨tv, mv, R, hw, rfl⟩ := h
  intro b hb
  simp only [List.mem_cons, List.mem_append, Option.mem_toList] at hb
  rcases hb with rfl | hb | hb
  · exact lt_of_at R.blk
  · exact row_lt R.rs hb
  · exact row_lt R.rt hb
def RTabTo (w w' : World) (o : Nat) (st' : List (ByteArray × Nat)) (bs : List Nat) : Prop := ∃ bs', RTab w' o st' bs' ∧ Fr bs w w' ∧ ∀ b ∈ bs', b ∈ bs ∨ w.heap.size ≤ b
theorem RTabTo.same {w : World} {o : Nat} {st : List (ByteArray × Nat)} {bs : List Nat} (h : RTab w o st bs) : RTabTo w w o st bs := ⟨bs, h, Fr.refl _ _, fun _ hb => .inl hb⟩
theorem wf_nil : WF [] := fun p hp => by simp at hp
theorem WF.set {st : List (ByteArray × Nat)} (h : WF st) {n u : Nat} {s : ByteArray} (hs : 0 < u ↔ 1 ≤ s.size) : WF (st.set n (s, u)) := fun p hp => by
  rcases List.mem_or_eq_of_mem_set hp with h1 | rfl
  · exact h p h1
  · exact hs
theorem WF.snoc {st : List (ByteArray × Nat)} (h : WF st) {u : Nat} {s : ByteArray} (hs : 0 < u ↔ 1 ≤ s.size) : WF (st ++ [(s, u)]) := fun p hp => by
  rcases List.mem_append.1 hp with h1 | h1
  · exact h p h1
  · simp at h1; subst h1; exact hs

theorem rDrop_any (o : Nat) (st : List (ByteArray × Nat)) (bs : List Nat) (n : Int) (w : World) (h : RTab w o st bs) (hu : ∀ p ∈ st, p.2 < 4611686018427387904) :
    Calls Try.prog 12 #[.pointer (some ⟨o, 0, none⟩), .int .i64 n] w fun e w' => e = .returned (.int .i64 (dropT st n).2) ∧ RTabTo w w' o (dropT st n).1 bs := by
  have h' := h
  obtain ⟨tv, mv, R, hwf, rfl⟩ := h
  rcases Bool.eq_false_or_eq_true (hasT st n) with hh | hh
  · obtain ⟨m, s, u, rfl, hm, hu0⟩ := hasT_true hh
    have e : dropT st m = (st.set m (if u = 1 then (ByteArray.empty, 0) else (s, u - 1)), 0) := by
      unfold dropT; rw [if_pos hh]
      rw [show ((m : Nat) : Int).toNat = m by omega, modify_at hm]
    rw [e]
    have hs1 := (hwf _ (List.mem_of_getElem? hm)).1 hu0
    by_cases h1 : u = 1
    · subst h1
      rw [if_pos rfl]
      exact (rDrop_out o tv mv st m s w R hwf hm).mono fun e w' ⟨he, R', hf⟩ => ⟨he, _, ⟨tv, mv, R', hwf.set (by simp), rfl⟩, hf.wider (fun k hk => .inl (List.mem_cons_of_mem _ hk)), fun _ hb => .inl hb⟩
    · rw [if_neg h1]
      obtain ⟨v, rfl⟩ : ∃ v, u = v + 2 := ⟨u - 2, by omega⟩
      exact (rDrop_dec o tv mv st m v s w R hwf hm (hu _ (List.mem_of_getElem? hm))).mono fun e w' ⟨he, R', hf⟩ => ⟨he, _, ⟨tv, mv, R', hwf.set (by constructor; intro _; exact hs1; intro _; omega), rfl⟩, hf.wider (fun k hk => .inl (List.mem_cons_of_mem _ (List.mem_append_right _ hk))), fun _ hb => .inl hb⟩
  · have e : dropT st n = (st, 13) := by unfold dropT; rw [hh]; rfl
    rw [e]
    exact (rDrop_none o tv mv st n w R hwf hh).mono fun e w' ⟨he, hw⟩ => by subst hw; exact ⟨he, RTabTo.same h'⟩

set_option maxHeartbeats 1000000 in
theorem rNew_any (w : World) : Calls Try.prog 7 #[] w fun e w' => ∃ o bs, e = .returned (.pointer (some ⟨o, 0, none⟩)) ∧ RTab w' o [] bs ∧ (∀ b ∈ bs, w.heap.size ≤ b) ∧ Below w.heap.size w w' := by
  go_enter Try.func7, Try.ntmps7
  go_wp2
  go_ret
  refine ⟨_, _, rfl, ⟨.slice none 0 0, .slice none 0 0, ⟨heap_alloc_new w _, World.ownsRow_nil _ _ _ _, World.ownsRow_nil _ _ _ _, by simp [Value.ownBlock], by simp [Value.ownBlock], by simp [Value.ownBlock]⟩, wf_nil, rfl⟩, ?_, ?_⟩
  · intro b hb
    simp [Value.ownBlock] at hb
    omega
  · exact (Below.refl _ w).alloc (Nat.le_refl _) _
end Go.Proofs.Ytobelhfhciafcaa
