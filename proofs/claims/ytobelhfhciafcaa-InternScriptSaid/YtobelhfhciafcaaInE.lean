/-
  The walks of package intern's table: a string added, a string taken out. Conditions: the blocks are the table's own.
-/
import Derived.Test.YtobelhfhciafcaaInD
namespace Go.Proofs.Ytobelhfhciafcaa
open Go.RowKit

theorem info_entry : (Try.prog.info? 62).map (fun i => (i.zero, i.size, i.bytes)) = some (some (.agg #[.string ⟨#[]⟩, .int .i64 0]), 2, 24) := by kernel_rfl
theorem two_one {s : ByteArray} {k : IntKind} {x : Int} : ∀ u ∈ ([.string s, .int k x] : List Value), u.oneCell' = true := by
  intro u hu
  simp at hu
  rcases hu with rfl | rfl <;> rfl
/-- what a table's blocks hold, for the walk -/
theorem Raw.cells {w : World} {t M : Nat} {tv fv : Value} {nx : Nat} {f : ByteArray → Option Value} {c : Nat} {ents : List (ByteArray × Nat)} {frees : List Int} (R : Raw w t M tv fv nx f c ents frees) :
    w.cell? ⟨t, 1, none⟩ = some (.map (some M)) ∧ w.cell? ⟨t, 2, none⟩ = some tv ∧ t < w.heap.size ∧ w.frozen? ⟨t, 2, none⟩ = false := by
  obtain ⟨_, k1, k2, _, _, hl⟩ := blk5 R.blk
  exact ⟨k1, k2, hl, blk_frozen R.blk 2⟩
/-- an entry's cells, for the walk -/
theorem Raw.entry {w : World} {t M g n len cap u : Nat} {s : ByteArray} {fv : Value} {nx : Nat} {f : ByteArray → Option Value} {c : Nat} {ents : List (ByteArray × Nat)} {frees : List Int} (R : Raw w t M (.slice (some ⟨g, 0, none⟩) len cap) fv nx f c ents frees) (h : ents[n]? = some (s, u)) :
    w.cell? ⟨g, n * 2, none⟩ = some (.string s) ∧ w.cell? ⟨g, n * 2 + 1, none⟩ = some (.int .i64 (u : Int)) ∧ w.frozen? ⟨g, n * 2, none⟩ = false ∧ w.frozen? ⟨g, n * 2 + 1, none⟩ = false ∧ g ≠ t :=
  ⟨row_cell R.row rfl (entC_at h).1, row_cell R.row rfl (entC_at h).2, row_frozen R.row rfl _, row_frozen R.row rfl _, fun e => R.sep.tt (by simp [Value.ownBlock, e])⟩

def cntM (f : ByteArray → Option Value) (s : ByteArray) (c : Nat) : Nat := if (f s).isSome then c else c + 1
theorem Raw.remap {w w' : World} {t M : Nat} {tv fv : Value} {nx : Nat} {f f' : ByteArray → Option Value} {c c' : Nat} {ents : List (ByteArray × Nat)} {frees : List Int} (R : Raw w t M tv fv nx f c ents frees) (h : Fr [M] w w') (hm : SMap w' M f' c') : Raw w' t M tv fv nx f' c' ents frees :=
  ⟨h.at (by simp; exact R.sep.tM) R.blk, hm, h.owns R.row (fun k hk hm => R.sep.Mt (by simp at hm; simp [hk, hm])), h.owns R.fre (fun k hk hm => R.sep.Mf (by simp at hm; simp [hk, hm])), R.sep⟩
theorem set_snoc (ents : List (ByteArray × Nat)) (e e' : ByteArray × Nat) : (ents ++ [e]).set ents.length e' = ents ++ [e'] := by simp
theorem popped {w w1 : World} {t M : Nat} {tv fv fv1 : Value} {nx : Nat} {f : ByteArray → Option Value} {c : Nat} {ents : List (ByteArray × Nat)} {frees zs : List Int} (R : Raw w t M tv fv nx f c ents frees)
    (hb1 : w1.heap[t]? = some (.cells #[.pointer (some ⟨t, 0, none⟩), .map (some M), tv, fv1, .int .i64 (nx : Int)] 56 (0, 0))) (ho1 : w1.ownsRow 0 3 1 fv1 zs.length (ints zs)) (hf1 : Fr (t :: fv.ownBlock.toList) w w1) (hv1 : fv1.ownBlock = fv.ownBlock) : Raw w1 t M tv fv1 nx f c ents zs := by
  refine ⟨hb1, R.map.fr hf1 ?_, hf1.owns R.row (fun k hk hm => ?_), ho1, ⟨R.sep.tM, R.sep.tt, by rw [hv1]; exact R.sep.tf, R.sep.Mt, by rw [hv1]; exact R.sep.Mf, by rw [hv1]; exact R.sep.vf⟩⟩
  · intro hm
    rcases List.mem_cons.1 hm with h | h
    · exact R.sep.tM h.symm
    · exact R.sep.Mf h
  · rcases List.mem_cons.1 hm with h | h
    · subst h; exact R.sep.tt (by simp [hk])
    · exact R.sep.vf k (by simp [hk]) h
theorem pushed {w w1 : World} {t M : Nat} {tv fv fv1 : Value} {nx : Nat} {f : ByteArray → Option Value} {c : Nat} {ents : List (ByteArray × Nat)} {frees zs : List Int} (R : Raw w t M tv fv nx f c ents frees)
    (hb1 : w1.heap[t]? = some (.cells #[.pointer (some ⟨t, 0, none⟩), .map (some M), tv, fv1, .int .i64 (nx : Int)] 56 (0, 0))) (ho1 : w1.ownsRow 0 3 1 fv1 zs.length (ints zs)) (hf1 : Fr (t :: fv.ownBlock.toList) w w1) (hv1 : ∀ g, fv1.ownBlock = some g → fv.ownBlock = some g ∨ w.heap.size ≤ g) : Raw w1 t M tv fv1 nx f c ents zs := by
  have ht := lt_of_at R.blk
  have hM := R.map.lt
  refine ⟨hb1, R.map.fr hf1 ?_, hf1.owns R.row (fun k hk hm => ?_), ho1, ⟨R.sep.tM, R.sep.tt, new_not hv1 R.sep.tf ht, R.sep.Mt, new_not hv1 R.sep.Mf hM, fun g hg hf => ?_⟩⟩
  · intro hm
    rcases List.mem_cons.1 hm with h | h
    · exact R.sep.tM h.symm
    · exact R.sep.Mf h
  · rcases List.mem_cons.1 hm with h | h
    · subst h; exact R.sep.tt (by simp [hk])
    · exact R.sep.vf k (by simp [hk]) h
  · have hgt := row_lt R.row (by simpa using hg)
    rcases hv1 g (by simpa using hf) with h | h
    · exact R.sep.vf g hg (by simp [h])
    · omega
theorem length_snoc (ents : List (ByteArray × Nat)) (e : ByteArray × Nat) : (ents ++ [e]).length = ents.length + 1 := by simp
theorem new_ge {v v' : Value} {w : World} {o : Obj} (h : ∀ g, v'.ownBlock = some g → v.ownBlock = some g ∨ (w.alloc o).heap.size ≤ g) : ∀ g, v'.ownBlock = some g → v.ownBlock = some g ∨ w.heap.size ≤ g := fun g hg => by
  rcases h g hg with h | h
  · exact .inl h
  · right; simp at h; omega
theorem blk23 {w : World} {t e : Nat} {c0 c1 c2 c3 c4 : Value} (h : w.heap[t]? = some (.cells #[c0, c1, c2, c3, c4] e (0, 0))) : w.cell? ⟨t, 1, none⟩ = some c1 ∧ w.cell? ⟨t, 2, none⟩ = some c2 ∧ t < w.heap.size ∧ w.frozen? ⟨t, 2, none⟩ = false := by
  obtain ⟨_, k1, k2, _, _, hl⟩ := blk5 h
  exact ⟨k1, k2, hl, blk_frozen h 2⟩
set_option maxHeartbeats 2000000 in
theorem add_end (t M : Nat) (tv fv : Value) (f : ByteArray → Option Value) (c : Nat) (ents : List (ByteArray × Nat)) (s : ByteArray) (w : World) (R : Raw w t M tv fv ents.length f c ents []) (hx : ents.length ≤ 90000) (hs : s.size ≤ 300) :
    Calls Try.prog 25 #[.pointer (some ⟨t, 0, none⟩), .string s] w fun e w' => e = .returned (.int .i64 ents.length) ∧ ∃ tv', Raw w' t M tv' fv (ents.length + 1) (putM f s (.int .i64 (ents.length : Int))) (cntM f s c) (ents ++ [(s, 0)]) [] ∧
      Fr (t :: M :: (tv.ownBlock.toList ++ fv.ownBlock.toList)) w w' ∧ (∀ g, tv'.ownBlock = some g → tv.ownBlock = some g ∨ w.heap.size ≤ g) := by
  obtain ⟨i0, hi, hz0, hz1, hz2⟩ := info_parts info_entry
  obtain ⟨k1, k2, htl, f2⟩ := R.cells
  obtain ⟨p, cap, rfl, hcap, hmax⟩ := row_any R.row
  have HR := Lib.hid R
  clear R
  go_enter Try.func25, Try.ntmps25
  go_wp2_with (first | (go_at_call 30; refine (take_next t _ _ _ _ ents.length _ HR.out.blk HR.out.fre hx).mono ?_; rintro e w1 ⟨rfl, hb1, hf1⟩; have R1 : Raw w1 t M (.slice p ents.length cap) fv (ents.length + 1) f c ents [] := ⟨hb1, HR.out.map.fr hf1 (by simp; exact Ne.symm HR.out.sep.tM), hf1.owns HR.out.row (fun k hk hm => HR.out.sep.tt (by simp at hm; simp [hk, hm])), hf1.owns HR.out.fre (fun k hk hm => HR.out.sep.tf (by simp at hm; simp [hk, hm])), HR.out.sep⟩; obtain ⟨k11, k12, htl1, f12⟩ := R1.cells; have HR1 := Lib.hid R1; have HF1 := Lib.hid hf1; clear R1 hb1 hf1) | (at_builtin; refine wpList_append_mine _ rfl (.tmp 22) (.tmp 24) 50 rfl 62 i0 (.agg #[.string ⟨#[]⟩, .int .i64 0]) 2 24 Try.underlying50 hi hz0 hz1 hz2 rfl (by decide) (.slice p ents.length cap) ents.length (entC ents) rfl (HR1.out.row.alloc _) ⟨w1.heap.size, 0, none⟩ 1 1 [.string ⟨#[]⟩, .int .i64 0] rfl rfl new_two two_one (by unfold maxLen; omega) (by omega) ?_; intro v2 w2 ho2 hf2 hn2; obtain ⟨g2, cap2, rfl, _, _, _, _⟩ := row_value ho2 (by omega); have hlA := length_snoc ents (ByteArray.empty, 0); have R2 := HR1.out.newrow (ents2 := ents ++ [(ByteArray.empty, 0)]) (tv2 := .slice (some ⟨g2, 0, none⟩) (ents.length + 1) cap2) (w' := w2) ((Fr.alloc _ w1 _).trans hf2) (by rw [entC_snoc, hlA]; exact ho2) (new_ge hn2); obtain ⟨_, k22, htl2, f22⟩ := blk23 (hf2.at HR1.out.sep.tt (blk_alloc HR1.out.blk _)); have HR2 := Lib.hid R2; have HF2 := Lib.hid hf2; have HN2 := Lib.hid hn2; clear ho2 hf2 hn2 R2 hlA) | (go_at_call 31; refine (strclone_any s _ (by omega)).mono ?_; rintro e w3 ⟨rfl, hb3⟩; have R3 := HR2.out.fr (Fr.of_below (F := []) hb3) (by simp); obtain ⟨k31, k32, htl3, f32⟩ := R3.cells; obtain ⟨cs, ci, fs, fi, _⟩ := R3.entry (n := ents.length) (s := ByteArray.empty) (u := 0) (by simp); have HR3 := Lib.hid R3; have HB3 := Lib.hid hb3; clear R3 hb3) | (at_mapUpdate; refine wpList_store_mine _ rfl (.tmp 41) (.tmp 42) (.tmp 43) 49 rfl 9 3 Try.underlying49 Try.underlying9 M c f rfl (HR3.out.put (n := ents.length) (s := s) (u := 0) (by simp)).map s (.int .i64 ents.length) rfl rfl (by unfold maxLen; omega) ?_; intro w5 hm5 hf5; have HM5 := Lib.hid hm5; have HF5 := Lib.hid hf5; clear hm5 hf5))
  go_ret
  have R5 := (HR3.out.put (n := ents.length) (s := s) (u := 0) (by simp)).remap HF5.out HM5.out
  rw [set_snoc] at R5
  refine ⟨rfl, _, R5, ?_, ?_⟩
  · have hg2 : g2 ∈ (Value.slice p ents.length cap).ownBlock.toList ∨ w.heap.size ≤ g2 := by
      rcases HN2.out g2 rfl with h | h
      · left; simp [h]
      · right; have := HF1.out.size; simp at h; omega
    refine Fr.step (Fr.step (Fr.trans (Fr.step (Fr.step (Fr.trans (HF1.out.wider (fun k hk => .inl (by simp at hk; simp [hk]))) (Fr.alloc _ w1 _)) HF2.out (fun j hj => .inl (by simp at hj; simp [hj]))) (Fr.setCell (F := [t]) w2 (p := ⟨t, 2, none⟩) (by simp) _) (fun j hj => .inl (by simp at hj; simp [hj]))) (Fr.of_below HB3.out)) ((Fr.setCell (F := [g2]) w3 (p := ⟨g2, ents.length * 2, none⟩) (by simp) _).trans (Fr.setCell _ (p := ⟨g2, ents.length * 2 + 1, none⟩) (by simp) _)) (fun j hj => ?_)) HF5.out (fun j hj => .inl (by simp at hj; simp [hj]))
    simp at hj
    subst hj
    rcases hg2 with h | h
    · left; simp only [List.mem_cons, List.mem_append]; exact .inr (.inr (.inl h))
    · exact .inr h
  · intro g hg
    rcases HN2.out g hg with h | h
    · exact .inl h
    · right; have := HF1.out.size; simp at h; omega

set_option maxHeartbeats 2000000 in
theorem add_free (t M : Nat) (tv fv : Value) (f : ByteArray → Option Value) (c nx : Nat) (ents : List (ByteArray × Nat)) (frees : List Int) (s : ByteArray) (w : World) (R : Raw w t M tv fv nx f c ents frees) (G : TGood ents f c frees) (h0 : 0 < frees.length) (hx : frees.length ≤ 90000) (hs : s.size ≤ 300) :
    Calls Try.prog 25 #[.pointer (some ⟨t, 0, none⟩), .string s] w fun e w' => ∃ (n : Nat) (zs : List Int) (fv' : Value), e = .returned (.int .i64 n) ∧ n < ents.length ∧ freeAt ents = n ∧ (∃ s0, ents[n]? = some (s0, 0)) ∧ (zs ++ [(n : Int)]).Perm frees ∧ HeapN zs zs.length ∧
      Raw w' t M tv fv' nx (putM f s (.int .i64 (n : Int))) (cntM f s c) (ents.set n (s, 0)) zs ∧ Fr (t :: M :: (tv.ownBlock.toList ++ fv.ownBlock.toList)) w w' ∧ fv'.ownBlock = fv.ownBlock := by
  obtain ⟨k1, k2, htl, f2⟩ := R.cells
  have hle : 0 < ents.length := by
    obtain ⟨x, hx⟩ := List.exists_mem_of_length_pos h0
    obtain ⟨n, _, s0, hn⟩ := (G.free x).1 hx
    have := (List.getElem?_eq_some_iff.1 hn).1
    omega
  obtain ⟨g, cap, rfl, _, _, hcap, hmax⟩ := row_value R.row hle
  have hlen := G.len
  have HR := Lib.hid R
  have HG := Lib.hid G
  clear R G
  go_enter Try.func25, Try.ntmps25
  go_wp2_with (first | (go_at_call 30; refine (take_pop t _ _ _ _ _ frees _ HR.out.blk HR.out.fre HR.out.sep.tf HG.out.heap h0 hx).mono ?_; rintro e w1 ⟨x, rfl, fv1, zs, hp1, hh1, hm1, hb1, ho1, hf1, hv1⟩; obtain ⟨n, rfl, hnl, ⟨s0, hn0⟩, hfa⟩ := HG.out.pop_num hp1 hm1; have hb : ((n : Int) == (ents.length : Int)) = false := (by simp; omega); have R1 : Raw w1 t M (.slice (some ⟨g, 0, none⟩) ents.length cap) fv1 nx f c ents zs := popped HR.out hb1 ho1 hf1 hv1; obtain ⟨k11, k12, htl1, f12⟩ := R1.cells; have HP := Lib.hid (And.intro hfa (And.intro hp1 hh1)); have HV1 := Lib.hid hv1; have HN0 := Lib.hid hn0; have HR1 := Lib.hid R1; have HF1 := Lib.hid hf1; clear R1 hb1 hf1 hp1 hm1 hh1 hv1 ho1 hfa hn0) | (go_at_call 31; refine (strclone_any s _ (by omega)).mono ?_; rintro e w3 ⟨rfl, hb3⟩; have R3 := HR1.out.fr (Fr.of_below (F := []) hb3) (by simp); obtain ⟨k31, k32, htl3, f32⟩ := R3.cells; obtain ⟨cs, ci, fs, fi, _⟩ := R3.entry HN0.out; have HR3 := Lib.hid R3; have HB3 := Lib.hid hb3; clear R3 hb3) | (at_mapUpdate; refine wpList_store_mine _ rfl (.tmp 41) (.tmp 42) (.tmp 43) 49 rfl 9 3 Try.underlying49 Try.underlying9 M c f rfl (HR3.out.put (n := n) (s := s) (u := 0) rfl).map s (.int .i64 n) rfl rfl (by unfold maxLen; omega) ?_; intro w5 hm5 hf5; have HM5 := Lib.hid hm5; have HF5 := Lib.hid hf5; clear hm5 hf5))
  go_ret
  have R5 := (HR3.out.put (n := n) (s := s) (u := 0) rfl).remap HF5.out HM5.out
  refine ⟨n, zs, fv1, rfl, hnl, HP.out.1, ⟨s0, HN0.out⟩, HP.out.2.1, HP.out.2.2, R5, ?_, HV1.out⟩
  exact Fr.step (Fr.step (Fr.trans (HF1.out.wider (fun k hk => .inl (by simp only [List.mem_cons, List.mem_append] at hk ⊢; rcases hk with h | h; exact .inl h; exact .inr (.inr (.inr h))))) (Fr.of_below HB3.out)) ((Fr.setCell (F := [g]) w3 (p := ⟨g, n * 2, none⟩) (by simp) _).trans (Fr.setCell _ (p := ⟨g, n * 2 + 1, none⟩) (by simp) _)) (fun j hj => .inl (by simp at hj; simp [hj, Value.ownBlock]))) HF5.out (fun j hj => .inl (by simp at hj; simp [hj]))

theorem step_drop_mine {P : Program} (w : World) {ops : Array Oper} {o : Oper} {a : Act} {Q : Exit → Act → World → Prop} {K : Act → World → Prop} {E : Prop} (hg : o.guard = none) (m x : Operand) (t k : TypeId) (hop : o.op = Op.call { callee := Callee.builtin Builtin.delete, args := #[m, x], argTypes := #[t, k] }) (e : TypeId) (ht : P.underlying t = some (.map k e)) (hk : P.underlying k = some .string)
    (b n : Nat) (f : ByteArray → Option Value) (hm : a.eval m = .map (some b)) (hown : SMap w b f n) (s : ByteArray) (hx : a.eval x = .string s) (hs : s.size ≤ maxLen)
    (hK : ∀ w', SMap w' b (delM f s) (if (f s).isSome then n - 1 else n) → Fr [b] w w' → K (a.put o.dst (.tuple #[])) w') :
    if Region.wanted o (yielded ops a.tmps) = true then Oper.wp P o a w K Q else E := by
  have hw : Region.wanted o (yielded ops a.tmps) = true := by simp [Region.wanted, hg]
  rw [if_pos hw]
  obtain ⟨ob, hrun, r1⟩ := hown.drop (P := P) ht hk hs o.type
  unfold Oper.wp
  simp [execOp, hop, resolve, invoke, builtin, hm, hx, hrun, Result.andThen]
  exact hK _ r1 (Fr.setBlock w (List.mem_singleton.2 rfl) _)
def lessM (f : ByteArray → Option Value) (s : ByteArray) (c : Nat) : Nat := if (f s).isSome then c - 1 else c
set_option maxHeartbeats 2000000 in
theorem remove_any (t M : Nat) (tv fv : Value) (f : ByteArray → Option Value) (c nx n u : Nat) (ents : List (ByteArray × Nat)) (frees : List Int) (s : ByteArray) (w : World) (R : Raw w t M tv fv nx f c ents frees) (hn : ents[n]? = some (s, u)) (hh : HeapN frees frees.length) (hx : frees.length ≤ 90000) (hs : s.size ≤ 300) (hl : ents.length ≤ 90000) :
    Calls Try.prog 27 #[.pointer (some ⟨t, 0, none⟩), .int .i64 n] w fun e w' => e = .returned (.tuple #[]) ∧ ∃ (ys : List Int) (fv' : Value), ys.Perm (frees ++ [(n : Int)]) ∧ HeapN ys ys.length ∧
      Raw w' t M tv fv' nx (delM f s) (lessM f s c) (ents.set n (ByteArray.empty, 0)) ys ∧ Fr (t :: M :: (tv.ownBlock.toList ++ fv.ownBlock.toList)) w w' ∧ (∀ g, fv'.ownBlock = some g → fv.ownBlock = some g ∨ w.heap.size ≤ g) := by
  obtain ⟨k1, k2, htl, f2⟩ := R.cells
  have hnl := (List.getElem?_eq_some_iff.1 hn).1
  obtain ⟨g, cap, rfl, _, _, hcap, hmax⟩ := row_value R.row (by omega)
  obtain ⟨cs, ci, fs, fi, hgt⟩ := R.entry hn
  unfold maxLen at hmax
  have hq : (0 : Int) ≤ n := by omega
  have hq2 : (n : Int) < ents.length := by omega
  have HR := Lib.hid R
  have HH := Lib.hid hh
  have HN := Lib.hid hn
  clear R hh hn
  go_enter Try.func27, Try.ntmps27
  go_wp2
  go_region_law (refine step_drop_mine _ rfl (.tmp 7) (.tmp 15) 49 9 rfl 3 Try.underlying49 Try.underlying9 M c f (by simp [Act.eval]) HR.out.map s (by simp [Act.eval]) (by unfold maxLen; omega) ?_; intro w2 hm2 hf2; have R2 := (HR.out.fr (F := []) (w' := w) (Fr.refl _ _) (by simp)).remap (hf2.like_left ⟨rfl, rfl, rfl, rfl⟩) hm2; obtain ⟨k12, k22, htl2, f22⟩ := R2.cells; obtain ⟨cs2, ci2, fs2, fi2, _⟩ := R2.entry HN.out; have HR2 := Lib.hid R2; have HF2 := Lib.hid (hf2.like_left (a' := w) ⟨rfl, rfl, rfl, rfl⟩); clear R2 hf2 hm2)
  all_goals go_wp2_with (first | (go_at_call 32; refine (give_any t _ _ _ _ _ frees n _ ((HR2.out.put (n := n) (s := ByteArray.empty) (u := 0) rfl).blk) ((HR2.out.put (n := n) (s := ByteArray.empty) (u := 0) rfl).fre) HR2.out.sep.tf HH.out hx).mono ?_; rintro e w5 ⟨rfl, fv5, ys, hp5, hh5, hb5, ho5, hf5, hv5⟩; have H5 := Lib.hid (And.intro hp5 (And.intro hh5 (And.intro hb5 (And.intro ho5 (And.intro hf5 hv5)))) ); clear hp5 hh5 hb5 ho5 hf5 hv5))
  all_goals
    go_end0
    have hsz : w.heap.size ≤ ((w2.setCell ⟨g, n * 2, none⟩ (.string ByteArray.empty)).setCell ⟨g, n * 2 + 1, none⟩ (.int .i64 ((0 : Nat) : Int))).heap.size := by have := HF2.out.size; simp; omega
    have R5 := pushed (HR2.out.put (n := n) (s := ByteArray.empty) (u := 0) rfl) H5.out.2.2.1 H5.out.2.2.2.1 H5.out.2.2.2.2.1 H5.out.2.2.2.2.2
    refine ⟨rfl, ys, fv5, H5.out.1, H5.out.2.1, R5, ?_, ?_⟩
    · exact Fr.step (Fr.step (HF2.out.wider (fun k hk => .inl (by simp at hk; simp [hk]))) ((Fr.setCell (F := [g]) w2 (p := ⟨g, n * 2, none⟩) (by simp) _).trans (Fr.setCell _ (p := ⟨g, n * 2 + 1, none⟩) (by simp) _)) (fun j hj => .inl (by simp at hj; simp [hj, Value.ownBlock]))) H5.out.2.2.2.2.1 (fun j hj => .inl (by simp only [List.mem_cons, List.mem_append] at hj ⊢; rcases hj with h | h; exact .inl h; exact .inr (.inr (.inr h))))
    · intro g' hg'
      rcases H5.out.2.2.2.2.2 g' hg' with h | h
      · exact .inl h
      · right; have h2 := hsz; exact Nat.le_trans h2 h
end Go.Proofs.Ytobelhfhciafcaa
