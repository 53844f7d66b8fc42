/-
  The walks of package intern's table: New, Take, Drop, Text, Find, Uses, Len. Conditions: the blocks are the table's own; no use count is near the greatest int.
-/
import Derived.Test.YtobelhfhciafcaaInE
namespace Go.Proofs.Ytobelhfhciafcaa
open Go.RowKit

/-- a table with the entries st, in the blocks bs -/
def Tab (w : World) (t : Nat) (st : List (ByteArray × Nat)) (bs : List Nat) : Prop :=
  ∃ (M : Nat) (tv fv : Value) (f : ByteArray → Option Value) (c : Nat) (frees : List Int), Raw w t M tv fv st.length f c st frees ∧ TGood st f c frees ∧ bs = t :: M :: (tv.ownBlock.toList ++ fv.ownBlock.toList)
theorem Tab.fr {w w' : World} {t : Nat} {st : List (ByteArray × Nat)} {bs F : List Nat} (h : Tab w t st bs) (hf : Fr F w w') (hn : ∀ b ∈ bs, b ∉ F) : Tab w' t st bs := by
  obtain ⟨M, tv, fv, f, c, frees, R, G, rfl⟩ := h
  exact ⟨M, tv, fv, f, c, frees, R.fr hf hn, G, rfl⟩
theorem Tab.lt {w : World} {t : Nat} {st : List (ByteArray × Nat)} {bs : List Nat} (h : Tab w t st bs) : ∀ b ∈ bs, b < w.heap.size := by
  obtain ⟨M, tv, fv, f, c, frees, R, G, rfl⟩ := h
  intro b hb
  simp only [List.mem_cons, List.mem_append, Option.mem_toList] at hb
  rcases hb with rfl | rfl | hb | hb
  · exact lt_of_at R.blk
  · exact R.map.lt
  · exact row_lt R.row hb
  · exact row_lt R.fre hb
/-- what a call on the table leaves -/
def TabTo (w w' : World) (t : Nat) (st' : List (ByteArray × Nat)) (bs : List Nat) : Prop := ∃ bs', Tab w' t st' bs' ∧ Fr bs w w' ∧ ∀ b ∈ bs', b ∈ bs ∨ w.heap.size ≤ b
theorem TabTo.same {w : World} {t : Nat} {st : List (ByteArray × Nat)} {bs : List Nat} (h : Tab w t st bs) : TabTo w w t st bs := ⟨bs, h, Fr.refl _ _, fun _ hb => .inl hb⟩

theorem set_get {st : List (ByteArray × Nat)} {n : Nat} (h : n < st.length) (e : ByteArray × Nat) : (st.set n e)[n]? = some e := by simp [h]
theorem modify_at {st : List (ByteArray × Nat)} {n u : Nat} {s : ByteArray} (h : st[n]? = some (s, u)) {g : ByteArray × Nat → ByteArray × Nat} : st.modify n g = st.set n (g (s, u)) := by
  apply List.ext_getElem?
  intro i
  have hl := (List.getElem?_eq_some_iff.1 h).1
  rw [List.getElem?_modify, List.getElem?_set]
  by_cases e : n = i
  · subst e; rw [h]; simp [hl]
  · simp [e]
theorem nodup_len : ∀ (l m : List Int), l.Nodup → l ⊆ m → l.length ≤ m.length
  | [], _, _, _ => Nat.zero_le _
  | a :: l, m, hd, hs => by
    have ha : a ∈ m := hs (by simp)
    obtain ⟨h1, h2⟩ := List.nodup_cons.1 hd
    have := nodup_len l (m.erase a) h2 (fun x hx => (List.mem_erase_of_ne (by rintro rfl; exact h1 hx)).2 (hs (List.mem_cons_of_mem _ hx)))
    rw [List.length_erase_of_mem ha] at this
    have := List.length_pos_of_mem ha
    simp
    omega
theorem TGood.frees_len {st : List (ByteArray × Nat)} {f : ByteArray → Option Value} {c : Nat} {frees : List Int} (h : TGood st f c frees) : frees.length ≤ st.length := by
  have hs : frees ⊆ (List.range st.length).map (fun n : Nat => (n : Int)) := fun x hx => by
    obtain ⟨n, rfl, s, hn⟩ := (h.free x).1 hx
    exact List.mem_map.2 ⟨n, List.mem_range.2 (List.getElem?_eq_some_iff.1 hn).1, rfl⟩
  have := nodup_len _ _ h.nodup hs
  simpa using this
theorem zero_int (w : World) : (zeroValue 3).run Try.prog w = .ok (.int .i64 0) w := by kernel_rfl
theorem Raw.look {w : World} {t M : Nat} {tv fv : Value} {nx : Nat} {f : ByteArray → Option Value} {c : Nat} {ents : List (ByteArray × Nat)} {frees : List Int} (R : Raw w t M tv fv nx f c ents frees) {s : ByteArray} (hs : s.size ≤ maxLen) :
    (Instr.lookup 49 (.map (some M)) (.string s) true).run Try.prog w = .ok (.tuple #[(f s).getD (.int .i64 0), .bool (f s).isSome]) w :=
  R.map.look_ok Try.underlying49 Try.underlying9 (zero_int w) hs
theorem Raw.len {w : World} {t M : Nat} {tv fv : Value} {nx : Nat} {f : ByteArray → Option Value} {c : Nat} {ents : List (ByteArray × Nat)} {frees : List Int} (R : Raw w t M tv fv nx f c ents frees) (ty : TypeId) :
    (Builtin.len_ #[49] ty #[.map (some M)]).run Try.prog w = .ok (.int .i64 c) w := R.map.len Try.underlying49 ty
theorem Raw.self {w : World} {t M : Nat} {tv fv : Value} {nx : Nat} {f : ByteArray → Option Value} {c : Nat} {ents : List (ByteArray × Nat)} {frees : List Int} (R : Raw w t M tv fv nx f c ents frees) : w.cell? ⟨t, 0, none⟩ = some (.pointer (some ⟨t, 0, none⟩)) := (blk5 R.blk).1

set_option maxHeartbeats 1000000 in
theorem Take_bad (t : Nat) (s : ByteArray) (w : World) (h : w.cell? ⟨t, 0, none⟩ = some (.pointer (some ⟨t, 0, none⟩))) (hs : s.size < 1 ∨ 255 < s.size) (hm : s.size ≤ 9223372036854775807) :
    Calls Try.prog 9 #[.pointer (some ⟨t, 0, none⟩), .string s] w fun e w' => e = .returned (.tuple #[.int .i64 0, .int .i64 2]) ∧ w = w' := by
  rcases hs with hs | hs
  · go_enter Try.func9, Try.ntmps9
    go_wp2_with (first | (go_at_call 24; refine (made_any t _ h).mono ?_; rintro e w' ⟨rfl, rfl⟩))
    go_ret2
    exact ⟨rfl, rfl⟩
  · have h2 : ¬ s.size < 1 := by omega
    go_enter Try.func9, Try.ntmps9
    go_wp2_with (first | (go_at_call 24; refine (made_any t _ h).mono ?_; rintro e w' ⟨rfl, rfl⟩))
    go_ret2
    exact ⟨rfl, rfl⟩

set_option maxHeartbeats 1000000 in
theorem Take_old (t M : Nat) (tv fv : Value) (f : ByteArray → Option Value) (c n u : Nat) (st : List (ByteArray × Nat)) (frees : List Int) (s : ByteArray) (w : World) (R : Raw w t M tv fv st.length f c st frees) (hn : st[n]? = some (s, u)) (hf : f s = some (.int .i64 n))
    (h1 : 1 ≤ s.size) (h2 : s.size ≤ 255) (hu : u < 4611686018427387904) :
    Calls Try.prog 9 #[.pointer (some ⟨t, 0, none⟩), .string s] w fun e w' => e = .returned (.tuple #[.int .i64 n, .int .i64 0]) ∧ Raw w' t M tv fv st.length f c (st.set n (s, u + 1)) frees ∧ Fr tv.ownBlock.toList w w' := by
  have hself := R.self
  obtain ⟨k1, k2, htl, f2⟩ := R.cells
  have hl := R.look (s := s) (by unfold maxLen; omega)
  rw [hf] at hl
  have hnl := (List.getElem?_eq_some_iff.1 hn).1
  obtain ⟨g, cap, rfl, _, _, hcap, hmax⟩ := row_value R.row (by omega)
  obtain ⟨cs, ci, fs, fi, hgt⟩ := R.entry hn
  unfold maxLen at hmax
  have hq : (0 : Int) ≤ n := by omega
  have hq2 : (n : Int) < st.length := by omega
  have HR := Lib.hid R
  have HN := Lib.hid hn
  clear R hn hf
  go_enter Try.func9, Try.ntmps9
  go_wp2_with (first | (go_at_call 24; refine (made_any t _ hself).mono ?_; rintro e w' ⟨rfl, rfl⟩))
  go_ret2
  exact ⟨rfl, by have := HR.out.uses (v := u + 1) rfl HN.out; rw [show ((u + 1 : Nat) : Int) = (u : Int) + 1 by omega] at this; exact this, Fr.setCell w (p := ⟨g, n * 2 + 1, none⟩) (by simp [Value.ownBlock]) _⟩

set_option maxHeartbeats 1000000 in
theorem Take_full (t M : Nat) (tv fv : Value) (f : ByteArray → Option Value) (c : Nat) (st : List (ByteArray × Nat)) (frees : List Int) (s : ByteArray) (w : World) (R : Raw w t M tv fv st.length f c st frees) (hf : f s = none)
    (h1 : 1 ≤ s.size) (h2 : s.size ≤ 255) (hc : 65536 ≤ c) (hc2 : c ≤ 65536) :
    Calls Try.prog 9 #[.pointer (some ⟨t, 0, none⟩), .string s] w fun e w' => e = .returned (.tuple #[.int .i64 0, .int .i64 16]) ∧ w = w' := by
  have hself := R.self
  obtain ⟨k1, k2, htl, f2⟩ := R.cells
  have hl := R.look (s := s) (by unfold maxLen; omega)
  rw [hf] at hl
  have hlen := R.len
  have q1 : decide ((65536 : Int) ≤ (c : Int)) = true := by rw [decide_eq_true_eq]; omega
  have q2 : decide (65536 ≤ c) = true := by simpa using hc
  clear hc hc2
  clear R hf
  go_enter Try.func9, Try.ntmps9
  go_wp2_with (first | (go_at_call 24; refine (made_any t _ hself).mono ?_; rintro e w' ⟨rfl, rfl⟩))
  go_ret2
  exact ⟨rfl, rfl⟩

set_option maxHeartbeats 2000000 in
theorem Take_end (t M : Nat) (tv fv : Value) (f : ByteArray → Option Value) (c : Nat) (st : List (ByteArray × Nat)) (s : ByteArray) (w : World) (R : Raw w t M tv fv st.length f c st []) (hf : f s = none)
    (h1 : 1 ≤ s.size) (h2 : s.size ≤ 255) (hc : c < 65536) (hst : st.length ≤ 70000) :
    Calls Try.prog 9 #[.pointer (some ⟨t, 0, none⟩), .string s] w fun e w' => e = .returned (.tuple #[.int .i64 st.length, .int .i64 0]) ∧ ∃ tv', Raw w' t M tv' fv (st.length + 1) (putM f s (.int .i64 (st.length : Int))) (cntM f s c) (st ++ [(s, 1)]) [] ∧
      Fr (t :: M :: (tv.ownBlock.toList ++ fv.ownBlock.toList)) w w' ∧ (∀ g, tv'.ownBlock = some g → tv.ownBlock = some g ∨ w.heap.size ≤ g) := by
  have hself := R.self
  obtain ⟨k1, k2, htl, f2⟩ := R.cells
  have hl := R.look (s := s) (by unfold maxLen; omega)
  rw [hf] at hl
  have hlen := R.len
  have q1 : decide ((65536 : Int) ≤ (c : Int)) = false := by rw [decide_eq_false_iff_not]; omega
  have q2 : decide (65536 ≤ c) = false := by rw [decide_eq_false_iff_not]; omega
  clear hc
  have HR := Lib.hid R
  clear R hf
  go_enter Try.func9, Try.ntmps9
  go_wp2_with (first | (go_at_call 24; refine (made_any t _ hself).mono ?_; rintro e w' ⟨rfl, rfl⟩) | (go_at_call 25; refine (add_end t M tv fv f c st s _ HR.out (by omega) (by omega)).mono ?_; rintro e w1 ⟨rfl, tv1, R1, hf1, hn1⟩; obtain ⟨g1, cap1, rfl, _, _, hcap1, hmax1⟩ := row_value R1.row (by simp); obtain ⟨cs, ci, fs, fi, hgt⟩ := R1.entry (n := st.length) (s := s) (u := 0) (by simp); obtain ⟨k11, k12, htl1, f12⟩ := R1.cells; rw [length_snoc] at k12 hcap1; unfold maxLen at hmax1; have HR1 := Lib.hid R1; have H1 := Lib.hid (And.intro hf1 hn1); clear R1 hf1 hn1))
  go_ret2
  have R2 := HR1.out.uses (n := st.length) (s := s) (u := 0) (v := 1) rfl (by simp)
  rw [set_snoc] at R2
  refine ⟨rfl, _, R2, H1.out.1.step (Fr.setCell (F := [g1]) w1 (p := ⟨g1, st.length * 2 + 1, none⟩) (by simp) _) (fun j hj => ?_), H1.out.2⟩
  simp at hj
  subst hj
  rcases H1.out.2 _ rfl with h | h
  · left; simp [h]
  · exact .inr h

set_option maxHeartbeats 2000000 in
theorem Take_free (t M : Nat) (tv fv : Value) (f : ByteArray → Option Value) (c : Nat) (st : List (ByteArray × Nat)) (frees : List Int) (s : ByteArray) (w : World) (R : Raw w t M tv fv st.length f c st frees) (G : TGood st f c frees) (h0 : 0 < frees.length) (hx : frees.length ≤ 70000) (hf : f s = none)
    (h1 : 1 ≤ s.size) (h2 : s.size ≤ 255) (hc : c < 65536) (hst : st.length ≤ 70000) :
    Calls Try.prog 9 #[.pointer (some ⟨t, 0, none⟩), .string s] w fun e w' => ∃ (n : Nat) (zs : List Int) (fv' : Value), e = .returned (.tuple #[.int .i64 n, .int .i64 0]) ∧ n < st.length ∧ freeAt st = n ∧ (∃ s0, st[n]? = some (s0, 0)) ∧ (zs ++ [(n : Int)]).Perm frees ∧ HeapN zs zs.length ∧
      Raw w' t M tv fv' st.length (putM f s (.int .i64 (n : Int))) (cntM f s c) (st.set n (s, 1)) zs ∧ Fr (t :: M :: (tv.ownBlock.toList ++ fv.ownBlock.toList)) w w' ∧ fv'.ownBlock = fv.ownBlock := by
  have hself := R.self
  obtain ⟨k1, k2, htl, f2⟩ := R.cells
  have hl := R.look (s := s) (by unfold maxLen; omega)
  rw [hf] at hl
  have hlen := R.len
  have q1 : decide ((65536 : Int) ≤ (c : Int)) = false := by rw [decide_eq_false_iff_not]; omega
  have q2 : decide (65536 ≤ c) = false := by rw [decide_eq_false_iff_not]; omega
  have HR := Lib.hid R
  have HG := Lib.hid G
  clear R hf G hc
  go_enter Try.func9, Try.ntmps9
  go_wp2_with (first | (go_at_call 24; refine (made_any t _ hself).mono ?_; rintro e w' ⟨rfl, rfl⟩) | (go_at_call 25; refine (add_free t M tv fv f c _ st frees s _ HR.out HG.out h0 (by omega) (by omega)).mono ?_; rintro e w1 ⟨n, zs, fv1, rfl, hnl, hfa, hs0, hp1, hh1, R1, hf1, hv1⟩; obtain ⟨g1, cap1, rfl, _, _, hcap1, hmax1⟩ := row_value R1.row (by simp; omega); have hn1 := set_get hnl (s, 0); obtain ⟨cs, ci, fs, fi, hgt⟩ := R1.entry hn1; obtain ⟨k11, k12, htl1, f12⟩ := R1.cells; rw [List.length_set] at k12 hcap1; unfold maxLen at hmax1; have hq : (0 : Int) ≤ n := (by omega); have hq2 : (n : Int) < st.length := (by omega); have HR1 := Lib.hid R1; have H1 := Lib.hid (And.intro hfa (And.intro hs0 (And.intro hp1 (And.intro hh1 (And.intro hf1 hv1))))); have HN1 := Lib.hid hn1; clear R1 hf1 hn1 hfa hs0 hp1 hh1 hv1))
  go_ret2
  have R2 := HR1.out.uses (v := 1) rfl HN1.out
  rw [List.set_set] at R2
  exact ⟨n, zs, _, rfl, hnl, H1.out.1, H1.out.2.1, H1.out.2.2.1, H1.out.2.2.2.1, R2, H1.out.2.2.2.2.1.step (Fr.setCell (F := [g1]) w1 (p := ⟨g1, n * 2 + 1, none⟩) (by simp) _) (fun j hj => .inl (by simp at hj; simp [hj, Value.ownBlock])), H1.out.2.2.2.2.2⟩

/-- Take, whatever is taken -/
theorem Take_any (t : Nat) (st : List (ByteArray × Nat)) (bs : List Nat) (s : ByteArray) (w : World) (h : Tab w t st bs) (hu : ∀ p ∈ st, p.2 < 4611686018427387904) (hm : s.size ≤ 9223372036854775807) :
    Calls Try.prog 9 #[.pointer (some ⟨t, 0, none⟩), .string s] w fun e w' => e = .returned (.tuple #[.int .i64 (takeT st s).2.1, .int .i64 (takeT st s).2.2]) ∧ TabTo w w' t (takeT st s).1 bs := by
  have h' := h
  obtain ⟨M, tv, fv, f, c, frees, R, G, rfl⟩ := h
  by_cases hs : s.size < 1 ∨ 255 < s.size
  · have e : takeT st s = (st, 0, 2) := by unfold takeT; rw [if_pos hs]
    rw [e]
    exact (Take_bad t s w R.self hs hm).mono fun e w' ⟨he, hw⟩ => by subst hw; exact ⟨he, TabTo.same h'⟩
  · have h1 : 1 ≤ s.size := by omega
    have h2 : s.size ≤ 255 := by omega
    have hnum := G.num s
    have hfl : frees.length ≤ 70000 := by
      have h3 := G.frees_len
      have := G.len
      omega
    cases hn : numAt st s with
    | some n =>
      obtain ⟨u, hat, hu0⟩ := numAt_some hn
      rw [hn] at hnum
      have hnl := (List.getElem?_eq_some_iff.1 hat).1
      have e : takeT st s = (st.set n (s, u + 1), n, 0) := by
        unfold takeT; rw [if_neg hs, hn]
        simp only
        rw [modify_at hat]
      rw [e]
      refine (Take_old t M tv fv f c n u st frees s w R hat hnum h1 h2 (hu _ (List.mem_of_getElem? hat))).mono fun e w' ⟨he, R', hf⟩ => ⟨he, _, ⟨M, tv, fv, f, c, frees, ?_, G.count_to hat hu0 (by omega), rfl⟩, hf.wider (fun k hk => .inl (by simp only [List.mem_cons, List.mem_append]; exact .inr (.inr (.inl hk)))), fun _ hb => .inl hb⟩
      show Raw w' t M tv fv (st.set n (s, u + 1)).length _ _ _ _; rw [List.length_set]; exact R'
    | none =>
      rw [hn] at hnum
      by_cases hc : 65536 ≤ usedN st
      · have e : takeT st s = (st, 0, 16) := by unfold takeT; rw [if_neg hs, hn]; simp only; rw [if_pos hc]
        rw [e]
        have := G.count
        have hc2 : usedN st ≤ st.length := List.countP_le_length
        exact (Take_full t M tv fv f c st frees s w R hnum h1 h2 (by omega) (by have := G.len; omega)).mono fun e w' ⟨he, hw⟩ => by subst hw; exact ⟨he, TabTo.same h'⟩
      · have e : takeT st s = ((if freeAt st < st.length then st.set (freeAt st) (s, 1) else st ++ [(s, 1)]), freeAt st, 0) := by unfold takeT; rw [if_neg hs, hn]; simp only; rw [if_neg hc]
        rw [e]
        have hcc := G.count
        have hlen := G.len
        have hcnt : cntM f s c = c + 1 := by unfold cntM; rw [hnum]; rfl
        by_cases h0 : frees = []
        · subst h0
          rw [freeAt_none G, if_neg (by omega)]
          refine (Take_end t M tv fv f c st s w R hnum h1 h2 (by omega) (by omega)).mono fun e w' ⟨he, tv', R', hf, hn'⟩ => ⟨he, _, ⟨M, tv', fv, putM f s (.int .i64 (st.length : Int)), c + 1, [], ?_, ?_, rfl⟩, hf, ?_⟩
          · rw [hcnt] at R'; show Raw w' t M tv' fv (st ++ [(s, 1)]).length _ _ _ _; rw [length_snoc]; exact R'
          · exact G.take_end hnum h1 h2 (by omega)
          · intro b hb
            simp only [List.mem_cons, List.mem_append, Option.mem_toList] at hb ⊢
            rcases hb with h | h | h | h
            · exact .inl (.inl h)
            · exact .inl (.inr (.inl h))
            · rcases hn' b h with h | h
              · exact .inl (.inr (.inr (.inl h)))
              · exact .inr h
            · exact .inl (.inr (.inr (.inr h)))
        · have h0' : 0 < frees.length := List.length_pos_iff.2 h0
          refine (Take_free t M tv fv f c st frees s w R G h0' hfl hnum h1 h2 (by omega) (by omega)).mono fun e w' ⟨n, zs, fv', he, hnl, hfa, ⟨s0, hs0⟩, hp, hh, R', hf, hv⟩ => ?_
          rw [hfa, if_pos hnl]
          refine ⟨he, _, ⟨M, tv, fv', putM f s (.int .i64 (n : Int)), c + 1, zs, ?_, ?_, rfl⟩, hf, ?_⟩
          · rw [hcnt] at R'; show Raw w' t M tv fv' (st.set n (s, 1)).length _ _ _ _; rw [List.length_set]; exact R'
          · exact G.take_free hs0 hp hh hnum h1 h2
          · intro b hb; rw [hv] at hb; exact .inl hb
end Go.Proofs.Ytobelhfhciafcaa
