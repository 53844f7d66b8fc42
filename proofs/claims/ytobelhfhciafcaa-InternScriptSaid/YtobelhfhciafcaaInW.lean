/-
  The walk of the law's list of a table's entries. Conditions: the blocks are the table's own; no more entries than the law allows.
-/
import Derived.Test.YtobelhfhciafcaaInV
namespace Go.Proofs.Ytobelhfhciafcaa
open Go.RowKit Go.Shelf
attribute [local go_sem] Oper.semAt_some

theorem Each_any (p : Option Addr) (w : World) : Calls Try.prog 29 #[.pointer p] w fun e w' => e = .returned (.func (.func 33) #[] #[.pointer (some ⟨w.heap.size, 0, none⟩)]) ∧ w' = w.alloc (.cells #[.pointer p] 25) := by
  go_enter Try.func29, Try.ntmps29
  go_wp2
  go_ret
  exact ⟨rfl, rfl⟩
theorem seq_eql (b : Array Value) (w : World) : (binOp .eql 66 (.func (.func 33) #[] b) .nilFunc).run Try.prog w = .ok (.bool false) w := by kernel_rfl
theorem seq_neq (b : Array Value) (w : World) : (binOp .neq 66 (.func (.func 33) #[] b) .nilFunc).run Try.prog w = .ok (.bool true) w := by kernel_rfl
theorem cell_one {w : World} {t e : Nat} {v : Value} {fr : Nat × Nat} (h : w.heap[t]? = some (.cells #[v] e fr)) : w.cell? ⟨t, 0, none⟩ = some v := by simp [World.cell?, h]
theorem wpListIn_append_mine {F : Fence} {n : Nat} {P : Program} (w : World) {ops : Array Oper} {rest : List Oper} {o : Oper} {a : Act} {Q : Exit → Act → World → Prop}
    (hg : o.guard = none) (s x : Operand) (t : TypeId) (hop : o.op = Op.call { callee := Callee.builtin Builtin.append, args := #[s, x], argTypes := #[t, t] })
    (e : TypeId) (i : TypeInfo) (z : Value) (size bytes : Nat) (h1 : P.underlying t = some (.slice e)) (h2 : P.info? e = some i) (h3 : i.zero = some z) (h4 : i.size = size) (h5 : i.bytes = bytes) (h6 : z.cells.size = size) (h7 : 0 < size)
    (v : Value) (k : Nat) (xs : List Value) (hs : a.eval s = v) (hown : w.ownsRow 0 e size v k xs) (ad : Addr) (m c : Nat) (news : List Value) (hx : a.eval x = .slice (some ad) m c) (hn : news.length = m * size)
    (hc : ∀ j u, news[j]? = some u → w.cell? (ad.add j) = some u) (h1c : ∀ u ∈ news, u.oneCell' = true) (b1 : k + m ≤ maxLen) (b2 : (k + m) * bytes ≤ 140737488355328)
    (hK : ∀ v' w', w'.ownsRow 0 e size v' (k + m) (xs ++ news) → Fr v.ownBlock.toList w w' → (∀ g, v'.ownBlock = some g → v.ownBlock = some g ∨ w.heap.size ≤ g) → wpListIn F n P ops Q rest (a.put o.dst v') w') :
    wpListIn F n P ops Q (o :: rest) a w := by
  refine wpListIn_plain hg fun K hK' => ?_
  obtain ⟨v', w', hrun, r1, r2, r3, _⟩ := run_append_mine (P := P) w t o.type e i z size bytes h1 h2 h3 h4 h5 h6 h7 v k xs hown ad m c news hn hc h1c b1 b2
  unfold Oper.wpIn
  refine ⟨?_, ?_⟩
  · simp [Oper.about, hop, resolve, Target.leads, Sem.run_pure]
  · rw [Oper.semAt_plain F _ _ (by rw [hop]; intro c hc'; cases hc')]
    simp [execOp, hop, resolve, invoke, builtin, hs, hx, hrun, Result.andThen]
    exact hK' _ _ (hK v' w' r1 r2 r3)

theorem grown_cells {W W' : World} {row : Option Nat} (hg : W.grownBy W' row) (hr : ∀ r, row = some r → ∃ o : Obj, W.heap[r]? = some o ∧ o.isCells = false) {k : Nat} {c : Array Value} {e : TypeId} {fr : Nat × Nat} (h : W.heap[k]? = some (.cells c e fr)) : W'.heap[k]? = some (.cells c e fr) := by
  refine (hg.block k (lt_of_at h) (fun e' => ?_)).trans h
  obtain ⟨o, ho, hc⟩ := hr k e'.symm
  rw [h] at ho
  cases ho
  cases hc
theorem grown_row {W W' : World} {row : Option Nat} (hg : W.grownBy W' row) (hr : ∀ r, row = some r → ∃ o : Obj, W.heap[r]? = some o ∧ o.isCells = false) {e size n : Nat} {v : Value} {xs : List Value} (h : W.ownsRow 0 e size v n xs) : W'.ownsRow 0 e size v n xs := by
  obtain ⟨h1, h2 | ⟨g, cap, cur, hv, hb, hh, r⟩⟩ := h
  · exact ⟨h1, .inl h2⟩
  · exact ⟨h1, .inr ⟨g, cap, cur, hv, hb, grown_cells hg hr hh, r⟩⟩
/-- what the loop over the entries holds -/
structure OutAt (w : World) (most : Nat) (pre : List (Nat × ByteArray)) (W : World) : Prop where
  bel : Below w.heap.size w W
  m : W.heap[w.heap.size]? = some (.cells #[.int .i64 (most : Int)] 3 (0, 0))
  r1 : W.heap[w.heap.size + 1]? = some (.cells #[.slice none 0 0] 40 (0, 0))
  r2 : W.heap[w.heap.size + 1 + 1]? = some (.cells #[.bool false] 4 (0, 0))
  out : ∃ v, W.heap[w.heap.size + 1 + 1 + 1 + 1]? = some (.cells #[v] 40 (0, 0)) ∧ W.ownsRow 0 47 2 v pre.length (entL pre) ∧ ∀ g, v.ownBlock = some g → w.heap.size + 1 + 1 + 1 + 1 < g
theorem OutAt.grown {w W W' : World} {most : Nat} {pre : List (Nat × ByteArray)} {row : Option Nat} (h : OutAt w most pre W) (hg : W.grownBy W' row) (hr : ∀ r, row = some r → w.heap.size ≤ r ∧ ∃ o : Obj, W.heap[r]? = some o ∧ o.isCells = false) : OutAt w most pre W' := by
  have hr2 : ∀ r, row = some r → ∃ o : Obj, W.heap[r]? = some o ∧ o.isCells = false := fun r e => (hr r e).2
  obtain ⟨v, hv, ho, hn⟩ := h.out
  exact ⟨h.bel.grown hg h.bel.size (fun k e => (hr k e).1), grown_cells hg hr2 h.m, grown_cells hg hr2 h.r1, grown_cells hg hr2 h.r2, v, grown_cells hg hr2 hv, grown_row hg hr2 ho, hn⟩
/-- an entry more -/
theorem OutAt.push {w W W1 : World} {most : Nat} {pre : List (Nat × ByteArray)} {v v1 : Value} {x : Nat × ByteArray} {y : Obj} (h : OutAt w most pre W) (hv : W.heap[w.heap.size + 1 + 1 + 1 + 1]? = some (.cells #[v] 40 (0, 0)))
    (hn : ∀ g, v.ownBlock = some g → w.heap.size + 1 + 1 + 1 + 1 < g) (ho : W1.ownsRow 0 47 2 v1 (pre.length + 1) (entL pre ++ [.int .i64 (x.1 : Int), .string x.2])) (hf : Fr v.ownBlock.toList (W.alloc y) W1) (hn1 : ∀ g, v1.ownBlock = some g → v.ownBlock = some g ∨ (W.alloc y).heap.size ≤ g) :
    OutAt w most (pre ++ [x]) (W1.setCell ⟨w.heap.size + 1 + 1 + 1 + 1, 0, none⟩ v1) ∧ Fr ((w.heap.size + 1 + 1 + 1 + 1) :: v.ownBlock.toList) W (W1.setCell ⟨w.heap.size + 1 + 1 + 1 + 1, 0, none⟩ v1) := by
  have hsz : w.heap.size + 1 + 1 + 1 + 1 < W.heap.size := lt_of_at hv
  have hlo : ∀ k, k < w.heap.size + 1 + 1 + 1 + 1 + 1 → k ∉ v.ownBlock.toList := fun k hk hm => by
    have := hn k (by simpa using hm); omega
  have hnew : ∀ g, v1.ownBlock = some g → w.heap.size + 1 + 1 + 1 + 1 < g := fun g hg => by
    rcases hn1 g hg with e | e
    · exact hn g e
    · simp at e; omega
  have hf2 : Fr [w.heap.size + 1 + 1 + 1 + 1] W1 (W1.setCell ⟨w.heap.size + 1 + 1 + 1 + 1, 0, none⟩ v1) := Fr.setCell W1 (by simp) _
  have keep : ∀ k o, k < w.heap.size + 1 + 1 + 1 + 1 → W.heap[k]? = some o → (W1.setCell ⟨w.heap.size + 1 + 1 + 1 + 1, 0, none⟩ v1).heap[k]? = some o := fun k o hk hh => hf2.at (by simp; omega) (hf.at (hlo k (by omega)) (blk_alloc hh _))
  have hfr : Fr ((w.heap.size + 1 + 1 + 1 + 1) :: v.ownBlock.toList) W (W1.setCell ⟨w.heap.size + 1 + 1 + 1 + 1, 0, none⟩ v1) := ((Fr.alloc _ W y).trans (hf.wider (fun k hk => .inl (List.mem_cons_of_mem _ hk)))).trans (hf2.wider (fun k hk => .inl (by simp at hk; simp [hk])))
  refine ⟨⟨h.bel.trans (hfr.below (fun k hk => ?_) h.bel.size), keep _ _ (by omega) h.m, keep _ _ (by omega) h.r1, keep _ _ (by omega) h.r2, v1, ?_, ?_, hnew⟩, hfr⟩
  · rcases List.mem_cons.1 hk with e | e
    · omega
    · have := hn k (by simpa using e); omega
  · exact blk_set (hf.at (hlo _ (by omega)) (blk_alloc hv _)) _
  · rw [entL_snoc, List.length_append]
    exact hf2.owns ho (fun k hk hm => by have := hnew k hk; simp at hm; omega)
theorem KeepsOthers.of_fr {F : List Nat} {W W' : World} (h : Fr F W W') (hF : ∀ k ∈ F, ∀ o, W.heap[k]? = some o → o.isCells = true) : KeepsOthers W W' :=
  ⟨h.size, fun k o hk ho => h.at (fun hm => by rw [hF k hm o hk] at ho; cases ho) hk⟩
theorem KpE.of_fr {F : List Nat} {W W' : World} (h : Fr F W W') (hF : ∀ k ∈ F, ∀ c fr, W.heap[k]? ≠ some (.cells c 62 fr)) : KpE W W' :=
  fun k c fr hk => h.at (fun hm => hF k hm c fr hk) hk
theorem KpE.putObj (W : World) (l : Nat) (o o' : Obj) (hl : W.heap[l]? = some o) (ho : o.isCells = false) : KpE W (W.putObj l o') := fun k c fr hk => by
  by_cases e : k = l
  · subst e; rw [hl] at hk; cases hk; cases ho
  · exact (World.putObj_heap_other e).trans hk
/-- the row of the entries lies in blocks of its own type -/
theorem out_types {w W : World} {v : Value} {n : Nat} {xs : List Value} (ho : W.ownsRow 0 47 2 v n xs) (hv : W.heap[w.heap.size + 1 + 1 + 1 + 1]? = some (.cells #[v] 40 (0, 0))) :
    ∀ k ∈ (w.heap.size + 1 + 1 + 1 + 1) :: v.ownBlock.toList, ∃ c e, W.heap[k]? = some (.cells c e (0, 0)) ∧ e ≠ 62 := by
  intro k hk
  rcases List.mem_cons.1 hk with e | e
  · subst e; exact ⟨_, _, hv, by decide⟩
  · rcases ho.2 with ⟨rfl, _⟩ | ⟨g, cap, cur, rfl, _, hg, _⟩
    · simp [Value.ownBlock] at e
    · simp [Value.ownBlock] at e
      subst e
      exact ⟨_, _, hg, by decide⟩

theorem each1_stops (Bt t : Nat) (st : List (ByteArray × Nat)) (bs : List Nat) (w : World) (hBt : w.cell? ⟨Bt, 0, none⟩ = some (.pointer (some ⟨t, 0, none⟩))) (hT : Tab w t st bs) :
    SeqStopsK Fence.wide 4 Try.prog 33 #[.pointer (some ⟨Bt, 0, none⟩)] (fun x : Nat × ByteArray => #[.int .i64 (x.1 : Int), .string x.2]) KpE (fun ys => ys = eachT st 0) (fun _ => True) (eachT st 0).length w := by
  intro l J Jx W hb hJ hJx hY h0
  have hl := World.block_lt_of_cell? w _ hBt
  exact each1_in 4 (by omega) l Bt t st bs J Jx W hJ hY ((hb.cell (p := ⟨Bt, 0, none⟩) hl).trans hBt) (hT.fr (Fr.of_below (F := []) hb) (by simp)) h0

theorem five_blocks (w : World) (a b c d e : Obj) : (((((w.alloc a).alloc b).alloc c).alloc d).alloc e).heap[w.heap.size]? = some a ∧ (((((w.alloc a).alloc b).alloc c).alloc d).alloc e).heap[w.heap.size + 1]? = some b ∧ (((((w.alloc a).alloc b).alloc c).alloc d).alloc e).heap[w.heap.size + 1 + 1]? = some c ∧
    (((((w.alloc a).alloc b).alloc c).alloc d).alloc e).heap[w.heap.size + 1 + 1 + 1]? = some d ∧ (((((w.alloc a).alloc b).alloc c).alloc d).alloc e).heap[w.heap.size + 1 + 1 + 1 + 1]? = some e := by
  have h1 := heap_alloc_new (w.alloc a) b
  have h2 := heap_alloc_new ((w.alloc a).alloc b) c
  have h3 := heap_alloc_new (((w.alloc a).alloc b).alloc c) d
  have h4 := heap_alloc_new ((((w.alloc a).alloc b).alloc c).alloc d) e
  simp only [World.size_alloc] at h1 h2 h3 h4
  exact ⟨blk_alloc (blk_alloc (blk_alloc (blk_alloc (heap_alloc_new w a) b) c) d) e, blk_alloc (blk_alloc (blk_alloc h1 c) d) e, blk_alloc (blk_alloc h2 d) e, blk_alloc h3 e, h4⟩
set_option maxRecDepth 100000 in
set_option maxHeartbeats 4000000 in
theorem entries_any (t : Nat) (st : List (ByteArray × Nat)) (bs : List Nat) (most : Nat) (w : World) (hT : Tab w t st bs) (hm : (eachT st 0).length ≤ most) (hm2 : most ≤ 100000) :
    Calls Try.prog 17 #[.pointer (some ⟨t, 0, none⟩), .int .i64 most] w fun e w' => ∃ v, e = .returned (.tuple #[v, .bool true]) ∧ EntAt w w' v (eachT st 0) := by
  refine (callsIn_wide (n := 5)).1 ?_
  obtain ⟨i0, hi, hz0, hz1, hz2⟩ := info_parts info_Entry
  have qf := seq_eql
  refine callsIn_of_wp_marks Try.func17 rfl trivial ?_ rfl
  simp only [Try.ntmps17, List.size_toArray, List.length_cons, List.length_nil, Nat.reduceAdd, Nat.reduceSub, Array.replicate_succ, Array.replicate_zero, List.push_toArray, List.append_toArray, List.nil_append, List.cons_append]
  gi_wp2_with (first | (refine ⟨trivial, ?_⟩; gi_at_call 29; refine (callsIn_wide.2 (Each_any _ _)).mono ?_; rintro e w' ⟨rfl, rfl⟩))
  have hT2 : Tab (((((w.alloc (.cells #[.int .i64 (most : Int)] 3)).alloc (.cells #[.slice none 0 0] 40)).alloc (.cells #[.bool false] 4)).alloc (.cells #[.pointer (some ⟨t, 0, none⟩)] 25)).alloc (.cells #[.slice none 0 0] 40)) t st bs :=
    ((((hT.fr (Fr.alloc [] _ _) (by simp)).fr (Fr.alloc [] _ _) (by simp)).fr (Fr.alloc [] _ _) (by simp)).fr (Fr.alloc [] _ _) (by simp)).fr (Fr.alloc [] _ _) (by simp)
  refine wpIn_rangeFunc_ownF rfl (by omega) (gf := 33) (lb := #[.pointer (some ⟨w.heap.size + 1 + 1 + 1, 0, none⟩)]) rfl trivial (enters_of Try.func33 (by kernel_rfl) rfl)
    (each1_stops (w.heap.size + 1 + 1 + 1) t st bs _ ?cellB hT2) KpE.trans (fun W l o o' _ h1 h2 _ => KpE.putObj W l o o' h1 h2) (Below.refl _ _) (fun _ => rfl)
    (OutAt w most) (fun _ _ _ => False) (fun s A B row hs hg hr => hs.grown hg (fun r e => ⟨by have := (hr r e).1; simp at this; omega, (hr r e).2⟩)) (fun _ _ _ _ _ hs _ _ => hs) ?start
    (fun x => { tmps := #[.pointer (some ⟨t, 0, none⟩), .int .i64 (most : Int), undef, .pointer (some ⟨w.heap.size, 0, none⟩), .pointer (some ⟨w.heap.size + 1, 0, none⟩), .pointer (some ⟨w.heap.size + 1 + 1, 0, none⟩),
      .func (.func 33) #[] #[.pointer (some ⟨w.heap.size + 1 + 1 + 1, 0, none⟩)], .pointer (some ⟨w.heap.size + 1 + 1 + 1 + 1, 0, none⟩), .int .i64 (x.1 : Int), .string x.2, .pointer (some ⟨t, 0, none⟩),
      .func (.func 33) #[] #[.pointer (some ⟨w.heap.size + 1 + 1 + 1, 0, none⟩)], .func (.func 33) #[] #[.pointer (some ⟨w.heap.size + 1 + 1 + 1, 0, none⟩)], .bool false, .func (.func 33) #[] #[.pointer (some ⟨w.heap.size + 1 + 1 + 1, 0, none⟩)], .int .i64 (x.1 : Int), .string x.2, undef, undef, undef, undef, undef, undef, undef, undef, undef, undef, undef], defers := [] })
    ?assign ?body ?done ?stop
  case cellB => exact cell_one (five_blocks w _ _ _ _ _).2.2.2.1
  case start =>
    obtain ⟨h0, h1, h2, h3, h4⟩ := five_blocks w (.cells #[.int .i64 (most : Int)] 3) (.cells #[.slice none 0 0] 40) (.cells #[.bool false] 4) (.cells #[.pointer (some ⟨t, 0, none⟩)] 25) (.cells #[.slice none 0 0] 40)
    exact ⟨((((((Below.refl _ w).alloc (Nat.le_refl _) _).alloc (by simp) _).alloc (by simp; omega) _).alloc (by simp; omega) _).alloc (by simp; omega) _), h0, h1, h2, _, h4, World.ownsRow_nil _ _ _ _, by simp [Value.ownBlock]⟩
  case assign =>
    intro l x W K hK
    gi_wp2
    exact hK
  case body =>
    rintro l pre x W hI hlt
    obtain ⟨v, hv, ho, hn⟩ := hI.out
    obtain ⟨p, cap, rfl, hcap, _⟩ := row_any ho
    have c7 : W.cell? ⟨w.heap.size + 1 + 1 + 1 + 1, 0, none⟩ = some (.slice p pre.length cap) := by simp [World.cell?, hv]
    have f7 := blk_frozen hv 0
    have c3 : W.cell? ⟨w.heap.size, 0, none⟩ = some (.int .i64 (most : Int)) := by simp [World.cell?, hI.m]
    have hlt2 : pre.length < most := by omega
    have hlt3 : ¬ most < pre.length := by omega
    have HI := Lib.hid hI
    have HV := Lib.hid hv
    have HO := Lib.hid ho
    have HN := Lib.hid hn
    clear hI hv ho hn
    gi_wp2_with (gi_at_builtin; refine wpListIn_append_mine _ rfl (.tmp 21) (.tmp 25) 40 rfl 47 i0 (.agg #[.int .i64 0, .string ⟨#[]⟩]) 2 24 Try.underlying40 hi hz0 hz1 hz2 rfl (by decide) (.slice p pre.length cap) pre.length (entL pre) rfl (HO.out.alloc _) _ 1 1 [.int .i64 (x.1 : Int), .string x.2] rfl rfl new_two two_one' (by unfold maxLen; omega) (by omega) ?_; intro v1 w1 ho1 hf1 hn1; obtain ⟨g1, cap1, rfl, _, _, _, _⟩ := row_value ho1 (by omega); have H1 := Lib.hid (HI.out.push (x := x) HV.out HN.out ho1 hf1 hn1); have hb1 := hf1.at (fun hm => by have := HN.out _ (by simpa using hm); omega) (blk_alloc HV.out _); have c71 : w1.cell? ⟨w.heap.size + 1 + 1 + 1 + 1, 0, none⟩ = some (.slice p pre.length cap) := cell_one hb1; have f71 := blk_frozen hb1 0; clear ho1 hf1 hn1 hb1)
    have ht := out_types HO.out HV.out
    exact ⟨KeepsOthers.of_fr H1.out.2 (fun k hk o h => by obtain ⟨c, e, hc, _⟩ := ht k hk; rw [hc] at h; cases h; rfl), KpE.of_fr H1.out.2 (fun k hk c fr h => by obtain ⟨c', e, hc, hne⟩ := ht k hk; rw [hc] at h; cases h; exact hne rfl), H1.out.1⟩
  case done =>
    rintro D ys W hD rfl hI hK
    obtain ⟨v, hv, ho, hn⟩ := hI.out
    obtain ⟨p, cap, rfl, hcap, _⟩ := row_any ho
    have c7 := cell_one hv
    have c4 := cell_one hI.r1
    have f4 := blk_frozen hI.r1 0
    have c5 := cell_one hI.r2
    have f5 := blk_frozen hI.r2 0
    have HI := Lib.hid hI
    have HV := Lib.hid hv
    have HO := Lib.hid ho
    have HN := Lib.hid hn
    have HK := Lib.hid hK
    clear hI hv ho hn hK
    gi_wp2
    have hfr : Fr [w.heap.size + 1, w.heap.size + 1 + 1] W ((W.setCell ⟨w.heap.size + 1, 0, none⟩ (.slice p (eachT st 0).length cap)).setCell ⟨w.heap.size + 1 + 1, 0, none⟩ (.bool true)) := (Fr.setCell W (by simp) _).trans (Fr.setCell _ (by simp) _)
    have hDn : D ∉ [w.heap.size + 1, w.heap.size + 1 + 1] := fun hm => by
      simp only [List.mem_cons, List.not_mem_nil, or_false] at hm
      rcases hm with e | e
      · have := HI.out.r1; rw [← e, HK.out] at this; cases this
      · have := HI.out.r2; rw [← e, HK.out] at this; cases this
    have hK2 := hfr.at hDn HK.out
    have hb1 : ((W.setCell ⟨w.heap.size + 1, 0, none⟩ (.slice p (eachT st 0).length cap)).setCell ⟨w.heap.size + 1 + 1, 0, none⟩ (.bool true)).heap[w.heap.size + 1]? = some (.cells #[.slice p (eachT st 0).length cap] 40 (0, 0)) :=
      (Fr.setCell (F := [w.heap.size + 1 + 1]) _ (by simp) _).at (by simp) (blk_set HI.out.r1 _)
    have hb2 : ((W.setCell ⟨w.heap.size + 1, 0, none⟩ (.slice p (eachT st 0).length cap)).setCell ⟨w.heap.size + 1 + 1, 0, none⟩ (.bool true)).heap[w.heap.size + 1 + 1]? = some (.cells #[.bool true] 4 (0, 0)) :=
      blk_set ((Fr.setCell (F := [w.heap.size + 1]) _ (by simp) _).at (by simp) HI.out.r2) _
    have hrow := hfr.owns HO.out (fun k hk hm => by have := HN.out k hk; simp at hm; omega)
    have hbel := HI.out.bel.trans (hfr.below (B := w.heap.size) (fun k hk => by simp at hk; omega) HI.out.bel.size)
    generalize hW2 : (W.setCell ⟨w.heap.size + 1, 0, none⟩ (.slice p (eachT st 0).length cap)).setCell ⟨w.heap.size + 1 + 1, 0, none⟩ (.bool true) = W2 at *
    have hg := grownBy_putObj' W2 D (.deferred none)
    have hr : ∀ r, some D = some r → ∃ o : Obj, W2.heap[r]? = some o ∧ o.isCells = false := fun r e => by cases e; exact ⟨_, hK2, rfl⟩
    have g4 := cell_one (grown_cells hg hr hb1)
    have g5 := cell_one (grown_cells hg hr hb2)
    refine ⟨by simp, .inl ⟨_, _, rfl, run_takeDeferred hK2, ?_⟩⟩
    refine ⟨.tuple #[.slice p (eachT st 0).length cap, .bool true], by simp [results, Try.results17, go_sem, g4, g5], _, rfl, ⟨grown_row hg hr hrow, hbel.grown hg hbel.size (fun k e => ?_), fun g hg' => by have := HN.out g hg'; omega⟩⟩
    cases e
    simp at hD
    omega
  case stop =>
    rintro D c pre W _ _ h _
    exact h.elim
end Go.Proofs.Ytobelhfhciafcaa
