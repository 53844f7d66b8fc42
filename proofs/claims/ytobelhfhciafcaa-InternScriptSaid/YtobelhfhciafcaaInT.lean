/-
  The walk of the reference's Take. Conditions: the blocks are the table's own; no use count is near the greatest int.
-/
import Derived.Test.YtobelhfhciafcaaInS
namespace Go.Proofs.Ytobelhfhciafcaa
open Go.RowKit

set_option maxHeartbeats 1000000 in
theorem rTake_bad (o : Nat) (s : ByteArray) (w : World) (hs : s.size < 1 ∨ 255 < s.size) (hm : s.size ≤ 9223372036854775807) :
    Calls Try.prog 10 #[.pointer (some ⟨o, 0, none⟩), .string s] w fun e w' => e = .returned (.tuple #[.int .i64 0, .int .i64 2]) ∧ w = w' := by
  rcases hs with hs | hs
  · go_enter Try.func10, Try.ntmps10
    go_wp2
    go_ret2
    exact ⟨rfl, rfl⟩
  · have h2 : ¬ s.size < 1 := by omega
    go_enter Try.func10, Try.ntmps10
    go_wp2
    go_ret2
    exact ⟨rfl, rfl⟩
set_option maxHeartbeats 1000000 in
theorem rTake_old (o : Nat) (tv mv : Value) (st : List (ByteArray × Nat)) (n u : Nat) (s : ByteArray) (w : World) (R : RRaw w o tv mv st) (hwf : WF st) (hl : st.length ≤ 100000) (hn : st[n]? = some (s, u)) (hnum : numAt st s = some n) (h1 : 1 ≤ s.size) (h2 : s.size ≤ 255) (hu : u < 4611686018427387904) :
    Calls Try.prog 10 #[.pointer (some ⟨o, 0, none⟩), .string s] w fun e w' => e = .returned (.tuple #[.int .i64 n, .int .i64 0]) ∧ RRaw w' o tv mv (st.set n (s, u + 1)) ∧ Fr mv.ownBlock.toList w w' := by
  obtain ⟨k0, k1, hol, _, _⟩ := blk2 R.blk
  obtain ⟨p, cap, rfl, hcap, hmax⟩ := row_any R.rt
  unfold maxLen at hmax
  have hnl := (List.getElem?_eq_some_iff.1 hn).1
  obtain ⟨g, rfl, cc, ff, go, _⟩ := R.time hn
  have hq : (0 : Int) ≤ n := by omega
  have hq2 : (n : Int) < st.length := by omega
  have e1 : findN st s = n := by simp [findN, hnum]
  have e2 : findB st s = true := by simp [findB, hnum]
  have HR := Lib.hid R
  have HN := Lib.hid hn
  have HW := Lib.hid hwf
  clear R hn hwf hnum
  go_enter Try.func10, Try.ntmps10
  go_wp2_with (first | (go_at_call 16; refine (rFind_any o _ _ st s _ HR.out HW.out hl (by omega)).mono ?_; rintro e w' ⟨rfl, rfl⟩))
  go_ret2
  exact ⟨rfl, by have := HR.out.setTime (v := u + 1) rfl HN.out; rw [show ((u + 1 : Nat) : Int) = (u : Int) + 1 by omega] at this; exact this, Fr.setCell w (p := ⟨g, n, none⟩) (by simp [Value.ownBlock]) _⟩
set_option maxHeartbeats 1000000 in
theorem rTake_full (o : Nat) (tv mv : Value) (st : List (ByteArray × Nat)) (s : ByteArray) (w : World) (R : RRaw w o tv mv st) (hwf : WF st) (hl : st.length ≤ 100000) (hnum : numAt st s = none) (h1 : 1 ≤ s.size) (h2 : s.size ≤ 255) (hc : 65536 ≤ usedN st) :
    Calls Try.prog 10 #[.pointer (some ⟨o, 0, none⟩), .string s] w fun e w' => e = .returned (.tuple #[.int .i64 0, .int .i64 16]) ∧ w = w' := by
  have e2 : findB st s = false := by simp [findB, hnum]
  have q1 : decide ((65536 : Int) ≤ (usedN st : Int)) = true := by rw [decide_eq_true_eq]; omega
  have q2 : decide (65536 ≤ usedN st) = true := by rw [decide_eq_true_eq]; omega
  have HR := Lib.hid R
  have HW := Lib.hid hwf
  clear R hwf hnum hc
  go_enter Try.func10, Try.ntmps10
  go_wp2_with (first | (go_at_call 16; refine (rFind_any o _ _ st s _ HR.out HW.out hl (by omega)).mono ?_; rintro e w' ⟨rfl, rfl⟩) | (go_at_call 21; refine (rLen_any o _ _ st _ HR.out HW.out hl).mono ?_; rintro e w' ⟨rfl, rfl⟩))
  go_ret2
  exact ⟨rfl, rfl⟩

theorem free_hit {st : List (ByteArray × Nat)} {k : Nat} {s : ByteArray} (hw : ∀ j, j < k → ∀ x v, st[j]? = some (x, v) → 0 < v) (h : st[k]? = some (s, 0)) : freeAt st = k := by
  have hl := (List.getElem?_eq_some_iff.1 h).1
  unfold freeAt
  rw [List.findIdx_eq hl]
  refine ⟨by rw [(List.getElem?_eq_some_iff.1 h).2]; simp [usedB], fun j hj => ?_⟩
  have hjl : j < st.length := by omega
  have := hw j hj st[j].1 st[j].2 (by rw [List.getElem?_eq_getElem hjl])
  simpa [usedB] using this
theorem free_end {st : List (ByteArray × Nat)} (hw : ∀ j, j < st.length → ∀ x v, st[j]? = some (x, v) → 0 < v) : freeAt st = st.length := by
  unfold freeAt
  rw [List.findIdx_eq_length]
  intro p hp
  obtain ⟨j, hj⟩ := List.mem_iff_getElem?.1 hp
  have := hw j (List.getElem?_eq_some_iff.1 hj).1 p.1 p.2 hj
  simpa [usedB] using this

theorem info_str : (Try.prog.info? 9).map (fun i => (i.zero, i.size, i.bytes)) = some (some (.string ⟨#[]⟩), 1, 16) := by kernel_rfl
theorem str_one {s : ByteArray} : ∀ u ∈ ([.string s] : List Value), u.oneCell' = true := by intro u hu; simp at hu; subst hu; rfl
/-- two rows of one object while each is appended to -/
structure Two (w W : World) (o : Nat) (tv mv v1 v2 : Value) (n1 : Nat) (xs : List Value) (n2 : Nat) (ys : List Value) : Prop where
  blk : W.heap[o]? = some (.cells #[tv, mv] 59 (0, 0))
  r1 : W.ownsRow 0 9 1 v1 n1 xs
  r2 : W.ownsRow 0 3 1 v2 n2 ys
  fr : Fr (o :: (tv.ownBlock.toList ++ mv.ownBlock.toList)) w W
  w1 : ∀ g, v1.ownBlock = some g → tv.ownBlock = some g ∨ w.heap.size ≤ g
  w2 : ∀ g, v2.ownBlock = some g → mv.ownBlock = some g ∨ w.heap.size ≤ g
  d : ∀ g ∈ v1.ownBlock.toList, g ∉ v2.ownBlock.toList
  o1 : o ∉ v1.ownBlock.toList
  o2 : o ∉ v2.ownBlock.toList
theorem Two.alloc {w W : World} {o : Nat} {tv mv v1 v2 : Value} {n1 n2 : Nat} {xs ys : List Value} (h : Two w W o tv mv v1 v2 n1 xs n2 ys) (x : Obj) : Two w (W.alloc x) o tv mv v1 v2 n1 xs n2 ys :=
  ⟨blk_alloc h.blk x, h.r1.alloc x, h.r2.alloc x, h.fr.trans (Fr.alloc _ _ _), h.w1, h.w2, h.d, h.o1, h.o2⟩
theorem Two.grow1 {w W W' : World} {o : Nat} {tv mv v1 v2 v1' : Value} {n1 n2 n1' : Nat} {xs ys xs' : List Value} (h : Two w W o tv mv v1 v2 n1 xs n2 ys) (ho : W'.ownsRow 0 9 1 v1' n1' xs') (hf : Fr v1.ownBlock.toList W W') (hn : ∀ g, v1'.ownBlock = some g → v1.ownBlock = some g ∨ W.heap.size ≤ g) : Two w W' o tv mv v1' v2 n1' xs' n2 ys := by
  have hs := h.fr.size
  refine ⟨hf.at h.o1 h.blk, ho, hf.owns h.r2 (fun k hk hm => h.d k hm (by simp [hk])), h.fr.step hf (fun j hj => ?_), fun g hg => ?_, h.w2, fun g hg hm => ?_, new_not hn h.o1 (lt_of_at h.blk), h.o2⟩
  · rcases h.w1 j (by simpa using hj) with e | e
    · left; simp [e]
    · exact .inr e
  · rcases hn g hg with e | e
    · exact h.w1 g e
    · right; omega
  · rcases hn g (by simpa using hg) with e | e
    · exact h.d g (by simp [e]) hm
    · have := row_lt h.r2 (by simpa using hm); omega
theorem Two.grow2 {w W W' : World} {o : Nat} {tv mv v1 v2 v2' : Value} {n1 n2 n2' : Nat} {xs ys ys' : List Value} (h : Two w W o tv mv v1 v2 n1 xs n2 ys) (ho : W'.ownsRow 0 3 1 v2' n2' ys') (hf : Fr v2.ownBlock.toList W W') (hn : ∀ g, v2'.ownBlock = some g → v2.ownBlock = some g ∨ W.heap.size ≤ g) : Two w W' o tv mv v1 v2' n1 xs n2' ys' := by
  have hs := h.fr.size
  refine ⟨hf.at h.o2 h.blk, hf.owns h.r1 (fun k hk hm => h.d k (by simp [hk]) hm), ho, h.fr.step hf (fun j hj => ?_), h.w1, fun g hg => ?_, fun g hg hm => ?_, h.o1, new_not hn h.o2 (lt_of_at h.blk)⟩
  · rcases h.w2 j (by simpa using hj) with e | e
    · left; simp [e]
    · exact .inr e
  · rcases hn g hg with e | e
    · exact h.w2 g e
    · right; omega
  · rcases hn g (by simpa using hm) with e | e
    · exact h.d g hg (by simp [e])
    · have := row_lt h.r1 (by simpa using hg); omega
theorem new_c0 (W : World) (x : Value) (e : TypeId) : (W.alloc (.cells #[x] e)).cell? ⟨W.heap.size, 0, none⟩ = some x := by
  have h := heap_alloc_new W (.cells #[x] e)
  unfold World.cell?
  rw [h]
  rfl
theorem new_c1 (W : World) (x : Value) (e : TypeId) (o : Obj) : ((W.alloc (.cells #[x] e)).alloc o).cell? ⟨W.heap.size, 0, none⟩ = some x := by
  have h := blk_alloc (heap_alloc_new W (.cells #[x] e)) o
  unfold World.cell?
  rw [h]
  rfl
theorem new_c2 (W : World) (x : Value) (e : TypeId) (o : Obj) : ((W.alloc o).alloc (.cells #[x] e)).cell? ⟨W.heap.size + 1, 0, none⟩ = some x := by
  have h := new_c0 (W.alloc o) x e
  rw [World.size_alloc] at h
  exact h
theorem new_le (W : World) (o : Obj) : W.heap.size ≤ (W.alloc o).heap.size := by simp
theorem news_one {W : World} {b : Nat} {x : Value} (h : W.cell? ⟨b, 0, none⟩ = some x) : ∀ j u, ([x] : List Value)[j]? = some u → W.cell? ((⟨b, 0, none⟩ : Addr).add j) = some u := by
  intro j u hj
  match j, hj with
  | 0, hj => simp at hj; subst hj; simpa [Addr.add] using h
theorem keep1 {w W W' : World} {base e size n : Nat} {v : Value} {xs : List Value} (hr : w.ownsRow base e size v n xs) (hf : Fr v.ownBlock.toList W W') : ∀ (X : Addr) (u : Value), w.heap.size ≤ X.block → W.cell? X = some u → W'.cell? X = some u := fun X u hX hc => by
  have hl := World.block_lt_of_cell? W X hc
  refine (World.cell?_of_block (hf.block X.block hl (fun hm => ?_))).trans hc
  have := row_lt hr (by simpa using hm)
  omega
def newT (st : List (ByteArray × Nat)) (s : ByteArray) : List (ByteArray × Nat) := if freeAt st < st.length then st.set (freeAt st) (s, 1) else st ++ [(s, 1)]
theorem Two.done {w W : World} {o n1 n2 : Nat} {tv mv v1 v2 : Value} {st : List (ByteArray × Nat)} (h : Two w W o tv mv v1 v2 n1 (strs st ++ [.string ⟨#[]⟩]) n2 (nums st ++ [.int .i64 0])) (h1 : n1 = st.length + 1) (h2 : n2 = st.length + 1) :
    RRaw ((W.setCell ⟨o, 0, none⟩ v1).setCell ⟨o, 1, none⟩ v2) o v1 v2 (st ++ [(ByteArray.empty, 0)]) := by
  subst h1
  subst h2
  have hf : Fr [o] W ((W.setCell ⟨o, 0, none⟩ v1).setCell ⟨o, 1, none⟩ v2) := (Fr.setCell W (by simp) _).trans (Fr.setCell _ (by simp) _)
  have e1 : strs (st ++ [(ByteArray.empty, 0)]) = strs st ++ [.string ⟨#[]⟩] := by simp [strs]; rfl
  have e2 : nums (st ++ [(ByteArray.empty, 0)]) = nums st ++ [.int .i64 0] := by simp [nums]
  refine ⟨blk_set (blk_set h.blk _) _, ?_, ?_, h.o1, h.o2, h.d⟩
  · rw [e1, length_snoc]; exact hf.owns h.r1 (fun k hk hm => h.o1 (by simp at hm; subst hm; simp [hk]))
  · rw [e2, length_snoc]; exact hf.owns h.r2 (fun k hk hm => h.o2 (by simp at hm; subst hm; simp [hk]))
theorem Two.facts {w W : World} {o n1 n2 g1 g2 cap1 cap2 : Nat} {tv mv : Value} {st : List (ByteArray × Nat)} (h : Two w W o tv mv (.slice (some ⟨g1, 0, none⟩) (st.length + 1) cap1) (.slice (some ⟨g2, 0, none⟩) (st.length + 1) cap2) n1 (strs st ++ [.string ⟨#[]⟩]) n2 (nums st ++ [.int .i64 0])) :
    W.cell? ⟨g1, st.length, none⟩ = some (.string ⟨#[]⟩) ∧ W.frozen? ⟨g1, st.length, none⟩ = false ∧ W.cell? ⟨g2, st.length, none⟩ = some (.int .i64 0) ∧ W.frozen? ⟨g2, st.length, none⟩ = false ∧ g1 ≠ o ∧ g2 ≠ o ∧ g1 ≠ g2 ∧ g2 ≠ g1 := by
  have hgg : g1 ≠ g2 := fun e => h.d g1 (by simp [Value.ownBlock]) (by simp [Value.ownBlock, e])
  refine ⟨row_cell h.r1 rfl (by simp [strs]), row_frozen h.r1 rfl _, row_cell h.r2 rfl (by simp [nums]), row_frozen h.r2 rfl _, fun e => h.o1 (by simp [Value.ownBlock, e]), fun e => h.o2 (by simp [Value.ownBlock, e]), hgg, Ne.symm hgg⟩
theorem Two.final {w W : World} {o n1 n2 g1 g2 cap1 cap2 : Nat} {tv mv : Value} {st : List (ByteArray × Nat)} (h : Two w W o tv mv (.slice (some ⟨g1, 0, none⟩) n1 cap1) (.slice (some ⟨g2, 0, none⟩) n2 cap2) n1 (strs st ++ [.string ⟨#[]⟩]) n2 (nums st ++ [.int .i64 0])) (h1 : n1 = st.length + 1) (h2 : n2 = st.length + 1) (s : ByteArray) :
    RRaw ((((W.setCell ⟨o, 0, none⟩ (.slice (some ⟨g1, 0, none⟩) n1 cap1)).setCell ⟨o, 1, none⟩ (.slice (some ⟨g2, 0, none⟩) n2 cap2)).setCell ⟨g1, st.length, none⟩ (.string s)).setCell ⟨g2, st.length, none⟩ (.int .i64 ((1 : Nat) : Int))) o (.slice (some ⟨g1, 0, none⟩) n1 cap1) (.slice (some ⟨g2, 0, none⟩) n2 cap2) (st ++ [(s, 1)]) ∧
    Fr (o :: (tv.ownBlock.toList ++ mv.ownBlock.toList)) w ((((W.setCell ⟨o, 0, none⟩ (.slice (some ⟨g1, 0, none⟩) n1 cap1)).setCell ⟨o, 1, none⟩ (.slice (some ⟨g2, 0, none⟩) n2 cap2)).setCell ⟨g1, st.length, none⟩ (.string s)).setCell ⟨g2, st.length, none⟩ (.int .i64 ((1 : Nat) : Int))) := by
  constructor
  · have := (h.done h1 h2).setBoth (n := st.length) (s := s) (v := 1) (by simp [h1]) (by simp [h2])
    rw [set_snoc] at this
    exact this
  · refine Fr.step (Fr.step (Fr.step (Fr.step h.fr (Fr.setCell (F := [o]) _ (by simp) _) (fun j hj => .inl (by simp at hj; simp [hj]))) (Fr.setCell (F := [o]) _ (by simp) _) (fun j hj => .inl (by simp at hj; simp [hj]))) (Fr.setCell (F := [g1]) _ (by simp) _) (fun j hj => ?_)) (Fr.setCell (F := [g2]) _ (by simp) _) (fun j hj => ?_)
    · simp at hj
      subst hj
      rcases h.w1 _ rfl with e | e
      · left; simp [e]
      · exact .inr e
    · simp at hj
      subst hj
      rcases h.w2 _ rfl with e | e
      · left; simp [e]
      · exact .inr e
set_option maxHeartbeats 20000000 in
theorem rTake_new (o : Nat) (tv mv : Value) (st : List (ByteArray × Nat)) (s : ByteArray) (w : World) (R : RRaw w o tv mv st) (hwf : WF st) (hl : st.length ≤ 70000) (hnum : numAt st s = none) (h1 : 1 ≤ s.size) (h2 : s.size ≤ 255) (hc : usedN st < 65536) :
    Calls Try.prog 10 #[.pointer (some ⟨o, 0, none⟩), .string s] w fun e w' => e = .returned (.tuple #[.int .i64 (freeAt st), .int .i64 0]) ∧ ∃ tv' mv', RRaw w' o tv' mv' (newT st s) ∧ Fr (o :: (tv.ownBlock.toList ++ mv.ownBlock.toList)) w w' ∧
      (∀ g, tv'.ownBlock = some g → tv.ownBlock = some g ∨ w.heap.size ≤ g) ∧ (∀ g, mv'.ownBlock = some g → mv.ownBlock = some g ∨ w.heap.size ≤ g) := by
  obtain ⟨k0, k1, hol, f0, f1⟩ := blk2 R.blk
  obtain ⟨p, cap, rfl, hcap, hmax⟩ := row_any R.rs
  obtain ⟨p2, cap2, rfl, hcap2, hmax2⟩ := row_any R.rt
  unfold maxLen at hmax hmax2
  have e2 : findB st s = false := by simp [findB, hnum]
  have q1 : decide ((65536 : Int) ≤ (usedN st : Int)) = false := by rw [decide_eq_false_iff_not]; omega
  have q2 : decide (65536 ≤ usedN st) = false := by rw [decide_eq_false_iff_not]; omega
  have HR := Lib.hid R
  have HW := Lib.hid hwf
  clear R hwf hnum hc
  go_enter Try.func10, Try.ntmps10
  go_wp2_with (first | (go_at_call 16; refine (rFind_any o _ _ st s _ HR.out HW.out (by omega) (by omega)).mono ?_; rintro e w' ⟨rfl, rfl⟩) | (go_at_call 21; refine (rLen_any o _ _ st _ HR.out HW.out (by omega)).mono ?_; rintro e w' ⟨rfl, rfl⟩))
  go_loop [6] (fun i => ∃ k : Nat, k ≤ st.length ∧ i = .int .i64 k ∧ RowKit.Hid (∀ j, j < k → ∀ x v, st[j]? = some (x, v) → 0 < v)) (fun i => st.length - (intOf i).toNat)
  case atStart => exact ⟨0, Nat.zero_le _, rfl, Lib.hid (fun j hj => by omega)⟩
  case round =>
    obtain ⟨k, hk, rfl, H⟩ := hrel
    by_cases hlt : k < st.length
    · obtain ⟨x, u, hat⟩ := at_of hlt
      obtain ⟨g, rfl, cc, fc, gne, _⟩ := HR.out.text hat
      have hwk := HW.out _ (List.mem_of_getElem? hat)
      have hq : (0 : Int) ≤ k := by omega
      have hq2 : (k : Int) < st.length := by omega
      by_cases hx : 1 ≤ x.size
      · have hne := ba_bne hx
        have HN : RowKit.Hid (∀ j, j < k + 1 → ∀ x v, st[j]? = some (x, v) → 0 < v) := Lib.hid (fun j hj x' v hv => by
          by_cases e : j = k
          · subst e; rw [hat] at hv; cases hv; exact hwk.2 hx
          · exact H.out j (by omega) x' v hv)
        clear hat hwk hcap
        go_wp2
        go_round
        case rel => exact ⟨k + 1, by omega, by go_num, HN⟩
        case measure => simp [intOf]; omega
      · have he := ba_emp hx
        subst he
        obtain rfl : u = 0 := by
          apply Nat.eq_zero_of_not_pos
          intro h0
          exact hx (hwk.1 h0)
        have HF := Lib.hid (free_hit H.out hat)
        have cc2 : w.cell? ⟨g, k, none⟩ = some (.string ⟨#[]⟩) := cc
        obtain ⟨g2, rfl, dd, fd, g2ne, _⟩ := HR.out.time hat
        have hkl : ((k : Int) == (st.length : Int)) = false := by simp; omega
        have hgg : g ≠ g2 := fun e => HR.out.sd g (by simp [Value.ownBlock]) (by simp [Value.ownBlock, e])
        have hgg' : g2 ≠ g := Ne.symm hgg
        have R2 := Lib.hid (HR.out.setBoth (n := k) (s := s) (v := 1) rfl rfl)
        clear hat hwk hcap cc
        go_wp2
        go_region
        all_goals
          go_wp2
          go_ret2
          rw [show newT st s = st.set k (s, 1) by unfold newT; rw [HF.out, if_pos hlt], HF.out]
          exact ⟨rfl, _, _, RRaw.fr (F := []) R2.out ((Fr.refl _ _).like ⟨rfl, rfl, rfl, rfl⟩) (by simp), ((Fr.setCell (F := _) w (p := ⟨g, k, none⟩) (by simp [Value.ownBlock]) _).trans (Fr.setCell _ (p := ⟨g2, k, none⟩) (by simp [Value.ownBlock]) _)).like ⟨rfl, rfl, rfl, rfl⟩, fun _ h => .inl h, fun _ h => .inl h⟩
    · obtain rfl : k = st.length := by omega
      have HF := Lib.hid (free_end H.out)
      obtain ⟨i1, hi1, hz11, hz12, hz13⟩ := info_parts info_str
      obtain ⟨i2, hi2, hz21, hz22, hz23⟩ := info_parts info_int
      have HT : RowKit.Hid (Two w w o (.slice p st.length cap) (.slice p2 st.length cap2) (.slice p st.length cap) (.slice p2 st.length cap2) st.length (strs st) st.length (nums st)) := Lib.hid ⟨HR.out.blk, HR.out.rs, HR.out.rt, Fr.refl _ _, fun _ h => .inl h, fun _ h => .inl h, HR.out.sd, HR.out.st, HR.out.sm⟩
      have HK : RowKit.Hid (∀ X u, w.heap.size ≤ Addr.block X → w.cell? X = some u → w.cell? X = some u) := Lib.hid (fun _ _ _ h => h)
      go_wp2
      go_region_law (first | (refine step_append_mine _ rfl (.tmp 67) (.tmp 68) 57 rfl 9 i1 (.string ⟨#[]⟩) 1 16 Try.underlying57 hi1 hz11 hz12 hz13 rfl (by decide) (.slice p st.length cap) st.length (strs st) (by simp [Act.eval]) ?_ _ 1 1 [.string ⟨#[]⟩] rfl rfl ?_ str_one (by unfold maxLen; omega) (by omega) ?_; (first | exact HT.out.r1 | exact (HT.out.alloc _).r1 | exact ((HT.out.alloc _).alloc _).r1); (refine news_one ?_; first | exact new_c0 _ _ _ | exact new_c1 _ _ _ _ | exact HK.out _ _ (Nat.le_refl _) (new_c0 _ _ _) | exact HK.out _ _ (Nat.le_refl _) (new_c1 _ _ _ _) | exact new_c2 _ _ _ _ | exact HK.out _ _ (Nat.le_succ _) (new_c2 _ _ _ _)); intro v1 w1 ho1 hf1 hn1; obtain ⟨g1, cap1, rfl, _, _, _, _⟩ := row_value ho1 (by omega); (first | (have HT2 := Lib.hid (Two.grow1 HT.out ho1 (hf1.like_left ⟨rfl, rfl, rfl, rfl⟩) hn1)) | (have HT2 := Lib.hid (Two.grow1 (HT.out.alloc _) ho1 (hf1.like_left ⟨rfl, rfl, rfl, rfl⟩) hn1)) | (have HT2 := Lib.hid (Two.grow1 ((HT.out.alloc _).alloc _) ho1 (hf1.like_left ⟨rfl, rfl, rfl, rfl⟩) hn1))); clear HT; have HT := HT2; clear HT2; obtain ⟨k01, k11, hol1, f01, f11⟩ := blk2 HT.out.blk; have HK2 := Lib.hid (keep1 HR.out.rs hf1); clear HK; have HK := HK2; clear HK2 ho1 hf1 hn1) | (refine step_append_mine _ rfl (.tmp 73) (.tmp 74) 51 rfl 3 i2 (.int .i64 0) 1 8 Try.underlying51 hi2 hz21 hz22 hz23 rfl (by decide) (.slice p2 st.length cap2) st.length (nums st) (by simp [Act.eval]) ?_ _ 1 1 [.int .i64 0] rfl rfl ?_ one_one (by unfold maxLen; omega) (by omega) ?_; (first | exact HT.out.r2 | exact (HT.out.alloc _).r2 | exact ((HT.out.alloc _).alloc _).r2); (refine news_one ?_; first | exact new_c0 _ _ _ | exact new_c1 _ _ _ _ | exact HK.out _ _ (Nat.le_refl _) (new_c0 _ _ _) | exact HK.out _ _ (Nat.le_refl _) (new_c1 _ _ _ _) | exact new_c2 _ _ _ _ | exact HK.out _ _ (Nat.le_succ _) (new_c2 _ _ _ _)); intro v2 w2 ho2 hf2 hn2; obtain ⟨g2, cap2', rfl, _, _, _, _⟩ := row_value ho2 (by omega); (first | (have HT2 := Lib.hid (Two.grow2 HT.out ho2 (hf2.like_left ⟨rfl, rfl, rfl, rfl⟩) hn2)) | (have HT2 := Lib.hid (Two.grow2 (HT.out.alloc _) ho2 (hf2.like_left ⟨rfl, rfl, rfl, rfl⟩) hn2)) | (have HT2 := Lib.hid (Two.grow2 ((HT.out.alloc _).alloc _) ho2 (hf2.like_left ⟨rfl, rfl, rfl, rfl⟩) hn2))); clear HT; have HT := HT2; clear HT2; obtain ⟨k02, k12, hol2, f02, f12⟩ := blk2 HT.out.blk; have HK2 := Lib.hid (keep1 HR.out.rt hf2); clear HK; have HK := HK2; clear HK2 ho2 hf2 hn2))
      all_goals
        obtain ⟨cc1, ff1, cc2, ff2, n1, n2, n3, n4⟩ := HT.out.facts
        have FN := Lib.hid (Two.final HT.out rfl rfl s)
        have HW1 := Lib.hid (And.intro HT.out.w1 HT.out.w2)
        clear HT HK
        go_wp2
        go_region
        all_goals
          go_wp2
          go_ret2
          rw [show newT st s = st ++ [(s, 1)] by unfold newT; rw [HF.out, if_neg (by omega)], HF.out]
          exact ⟨rfl, _, _, RRaw.fr (F := []) FN.out.1 ((Fr.refl _ _).like ⟨rfl, rfl, rfl, rfl⟩) (by simp), FN.out.2.like ⟨rfl, rfl, rfl, rfl⟩, HW1.out.1, HW1.out.2⟩
end Go.Proofs.Ytobelhfhciafcaa
