/-
  The walks of package intern's heap of free numbers: its methods, and container/heap over them. Conditions: the slice is the call's own.
-/
import Derived.Test.YtobelhfhciafcaaInA
import Derived.Test.YtobelhfhciafcaaProg
import Derived.WalkKit
import Derived.WalkSpells
import Derived.WalkLawsBesides
import Derived.OwnWalk
import Derived.LoopTactic
import Derived.Deep.QuietTactic
import Derived.BigQuiet
import Derived.BigRegion
import Derived.RegionTactic
import Derived.Outline
import Derived.Deep.RegionLaw
namespace Go.Proofs.Ytobelhfhciafcaa
open Go.RowKit

def ints (xs : List Int) : List Value := xs.map (.int .i64)
theorem ints_at {xs : List Int} {k : Nat} (h : k < xs.length) : (ints xs)[k]? = some (.int .i64 (gI xs k)) := by
  simp [ints, gI, h]
set_option maxHeartbeats 400000 in
theorem fLen_any (p : Option Addr) (n c : Nat) (w : World) : Calls Try.prog 35 #[.slice p n c] w fun e w' => e = .returned (.int .i64 n) ∧ w = w' := by
  go_enter Try.func35, Try.ntmps35
  go_wp2
  go_ret
  exact ⟨rfl, rfl⟩

set_option maxHeartbeats 400000 in
theorem fLess_any (v : Value) (xs : List Int) (i j : Nat) (w : World) (h : w.ownsRow 0 3 1 v xs.length (ints xs)) (hi : i < xs.length) (hj : j < xs.length) :
    Calls Try.prog 57 #[v, .int .i64 i, .int .i64 j] w fun e w' => e = .returned (.bool (decide (gI xs i < gI xs j))) ∧ ∃ n, w' = w.drewN n := by
  obtain ⟨g, cap, rfl, hg, hlt, hcap, hmax⟩ := row_value h (by omega)
  have c1 := row_cell h hg (ints_at hi)
  have c2 := row_cell h hg (ints_at hj)
  have hq1 : (0 : Int) ≤ i := by omega
  have hq2 : (i : Int) < xs.length := by omega
  have hq3 : (0 : Int) ≤ j := by omega
  have hq4 : (j : Int) < xs.length := by omega
  unfold maxLen at hmax
  clear h hg
  go_enter Try.func57, Try.ntmps57
  go_wp2
  go_quiet (fail)
  go_wp2
  go_ret
  exact ⟨rfl, _, rfl⟩

theorem ints_swap (xs : List Int) (i j : Nat) : ints (swapL xs i j) = ((ints xs).set i (.int .i64 (gI xs j))).set j (.int .i64 (gI xs i)) := by simp [ints, swapL, List.map_set]
set_option maxHeartbeats 1000000 in
theorem fSwap_any (v : Value) (xs : List Int) (i j : Nat) (w : World) (h : w.ownsRow 0 3 1 v xs.length (ints xs)) (hi : i < xs.length) (hj : j < xs.length) :
    Calls Try.prog 58 #[v, .int .i64 i, .int .i64 j] w fun e w' => e = .returned (.tuple #[]) ∧ w'.ownsRow 0 3 1 v xs.length (ints (swapL xs i j)) ∧ Fr v.ownBlock.toList w w' := by
  obtain ⟨g, cap, rfl, hg, hlt, hcap, hmax⟩ := row_value h (by omega)
  have c1 := row_cell h hg (ints_at hi)
  have c2 := row_cell h hg (ints_at hj)
  have f1 := row_frozen h hg i
  have f2 := row_frozen h hg j
  have hq1 : (0 : Int) ≤ i := by omega
  have hq2 : (i : Int) < xs.length := by omega
  have hq3 : (0 : Int) ≤ j := by omega
  have hq4 : (j : Int) < xs.length := by omega
  unfold maxLen at hmax
  have H := Lib.hid h
  clear h hg
  obtain ⟨v', hy'⟩ := cell?_setCell_some (w := w) (p := ⟨g, i, none⟩) (x := .int .i64 (gI xs j)) (q := ⟨g, j, none⟩) (v := .int .i64 (gI xs j)) c2
  go_enter Try.func58, Try.ntmps58
  go_wp2
  go_region
  go_end0
  have s1 := H.out.stored i (.int .i64 (gI xs j))
  have s2 := s1.1.stored j (.int .i64 (gI xs i))
  refine ⟨rfl, ?_, ?_⟩
  · rw [ints_swap]; exact s2.1.drew
  · exact (((Fr.setCell w (by simp [Value.ownBlock]) _).trans (Fr.setCell _ (by simp [Value.ownBlock]) _))).trans (Fr.drew _ _)

theorem ta_int (x : Int) (w : World) : (Instr.typeAssert (.iface 3 (.int .i64 x)) 20 3 false).run Try.prog w = .ok (.int .i64 x) w := by kernel_rfl
theorem info_int : (Try.prog.info? 3).map (fun i => (i.zero, i.size, i.bytes)) = some (some (.int .i64 0), 1, 8) := by kernel_rfl
set_option maxHeartbeats 1000000 in
theorem fPush_any (t : Nat) (c0 c1 c2 v c4 : Value) (xs : List Int) (x : Int) (w : World) (hb : w.heap[t]? = some (.cells #[c0, c1, c2, v, c4] 56 (0, 0))) (h : w.ownsRow 0 3 1 v xs.length (ints xs)) (hx : xs.length ≤ 100000) (hne : t ∉ v.ownBlock.toList) :
    Calls Try.prog 60 #[.pointer (some ⟨t, 3, none⟩), .iface 3 (.int .i64 x)] w fun e w' => e = .returned (.tuple #[]) ∧ ∃ v', w'.heap[t]? = some (.cells #[c0, c1, c2, v', c4] 56 (0, 0)) ∧ w'.ownsRow 0 3 1 v' (xs.length + 1) (ints (xs ++ [x])) ∧
      Fr (t :: v.ownBlock.toList) w w' ∧ (∀ g, v'.ownBlock = some g → v.ownBlock = some g ∨ w.heap.size ≤ g) := by
  obtain ⟨i0, hi, hz0, hz1, hz2⟩ := info_parts info_int
  obtain ⟨_, _, _, k3, _, htl⟩ := blk5 hb
  have f3 := blk_frozen hb 3
  obtain ⟨p, cap, rfl, hcap, hmax⟩ := row_any h
  unfold maxLen at hmax
  have H := Lib.hid h
  have HB := Lib.hid hb
  have HN := Lib.hid hne
  clear h hb hne
  have hta := ta_int x
  go_enter Try.func60, Try.ntmps60
  go_wp2
  go_region_law (refine step_append_mine _ rfl (.tmp 7) (.tmp 10) 52 rfl 3 i0 (.int .i64 0) 1 8 Try.underlying52 hi hz0 hz1 hz2 rfl (by decide) (.slice p xs.length cap) xs.length (ints xs) (by simp [Act.eval]) (H.out.alloc _) ⟨w.heap.size, 0, none⟩ 1 1 [.int .i64 x] (by simp [Act.eval]) rfl new_one one_one (by unfold maxLen; omega) (by omega) ?_; intro v1 w1 hown1 hfr1 hnew1; obtain ⟨g1, cap1, rfl, hv1, hg1, _, _⟩ := row_value hown1 (by omega); have hb1 := hfr1.at HN.out (blk_alloc HB.out _); obtain ⟨_, _, _, k31, _, htl1⟩ := blk5 hb1; have f31 := blk_frozen hb1 3; have H1 := Lib.hid hown1; have HG1 := Lib.hid hfr1; have HB1 := Lib.hid hb1; have HV1 := Lib.hid hv1; have HW1 := Lib.hid hnew1; clear hown1 hfr1 hb1 hv1 hnew1)
  all_goals go_end0
  all_goals
    have hne1 : g1 ≠ t := by
      rintro rfl
      rcases HW1.out _ HV1.out with h | h
      · exact HN.out (by simp [h])
      · simp at h; omega
    refine ⟨rfl, _, blk_set HB1.out _, ?_, ?_, ?_⟩
    · rw [show ints (xs ++ [x]) = ints xs ++ [.int .i64 x] by simp [ints]]
      exact row_set_other H1.out (by rw [HV1.out]; simpa using hne1) _
    · refine Fr.like (Fr.trans (Fr.trans (b := _) ?_ (HG1.out.wider (fun k hk => .inl (List.mem_cons_of_mem _ hk)))) (Fr.setCell w1 (p := ⟨t, 3, none⟩) (List.mem_cons_self ..) _)) ⟨rfl, rfl, rfl, rfl⟩
      exact (Fr.alloc _ w (.cells #[.int .i64 x] 3)).like ⟨rfl, rfl, rfl, rfl⟩
    · intro g hg
      rcases HW1.out g hg with h | h
      · exact .inl h
      · right; simp at h; omega

set_option maxHeartbeats 1000000 in
theorem fPop_any (t : Nat) (c0 c1 c2 v c4 : Value) (xs : List Int) (x : Int) (w : World) (hb : w.heap[t]? = some (.cells #[c0, c1, c2, v, c4] 56 (0, 0))) (h : w.ownsRow 0 3 1 v (xs ++ [x]).length (ints (xs ++ [x]))) (hne : t ∉ v.ownBlock.toList) :
    Calls Try.prog 59 #[.pointer (some ⟨t, 3, none⟩)] w fun e w' => e = .returned (.iface 3 (.int .i64 x)) ∧ ∃ v', w'.heap[t]? = some (.cells #[c0, c1, c2, v', c4] 56 (0, 0)) ∧ w'.ownsRow 0 3 1 v' xs.length (ints xs) ∧
      Fr [t] w w' ∧ v'.ownBlock = v.ownBlock := by
  obtain ⟨_, _, _, k3, _, htl⟩ := blk5 hb
  have f3 := blk_frozen hb 3
  obtain ⟨g, cap, rfl, hg, hlt, hcap, hmax⟩ := row_value h (by simp)
  have c1 := row_cell h hg (ints_at (k := xs.length) (by simp))
  have hx : gI (xs ++ [x]) xs.length = x := by simp [gI]
  rw [hx] at c1
  unfold maxLen at hmax
  have hl : (xs ++ [x]).length = xs.length + 1 := by simp
  rw [hl] at k3 hcap
  have H := Lib.hid h
  have HB := Lib.hid hb
  rw [hl] at H HB
  clear h hb hg hx hl
  go_enter Try.func59, Try.ntmps59
  go_wp2_with (go_at_call 35; refine (fLen_any _ _ _ _).mono ?_; rintro e w' ⟨rfl, rfl⟩)
  go_ret
  refine ⟨rfl, _, blk_set HB.out _, ?_, Fr.setCell w (p := ⟨t, 3, none⟩) (by simp) _, rfl⟩
  have h2 := row_shorter H.out (m := xs.length) (by omega)
  have e : (ints (xs ++ [x])).take (xs.length * 1) = ints xs := by simp [ints]
  rw [e] at h2
  exact row_set_other h2 (fun e => hne (by simp [Value.ownBlock] at e ⊢; omega)) _

theorem fol (t : Nat) (w : World) : (follow [⟨54, 0, true⟩] 71 (.val (.pointer (some ⟨t, 3, none⟩)))).run Try.prog w = .ok (52, .var ⟨t, 3, none⟩) w := by kernel_rfl
theorem rec_val (t : Nat) (v : Value) (w : World) (h : w.cell? ⟨t, 3, none⟩ = some v) : (receiverAt 52 (.var ⟨t, 3, none⟩) false none).run Try.prog w = .ok v w := by
  have e : (receiverAt 52 (.var ⟨t, 3, none⟩) false none).run Try.prog w = (loadVar 52 ⟨t, 3, none⟩).run Try.prog w := by kernel_rfl
  rw [e]
  simp [loadVar, h]
theorem rec_ptr (t : Nat) (w : World) : (receiverAt 52 (.var ⟨t, 3, none⟩) true none).run Try.prog w = .ok (.pointer (some ⟨t, 3, none⟩)) w := by kernel_rfl
theorem m_len (t : Nat) (v : Value) (w : World) (h : w.cell? ⟨t, 3, none⟩ = some v) (n : Nat) : (method (n + 1) 71 (.pointer (some ⟨t, 3, none⟩)) "Len").run Try.prog w = .ok (35, v) w :=
  run_method (by kernel_rfl) (by simp) (fol t w) (rec_val t v w h)
theorem m_less (t : Nat) (v : Value) (w : World) (h : w.cell? ⟨t, 3, none⟩ = some v) (n : Nat) : (method (n + 1) 71 (.pointer (some ⟨t, 3, none⟩)) "Less").run Try.prog w = .ok (57, v) w :=
  run_method (by kernel_rfl) (by simp) (fol t w) (rec_val t v w h)
theorem m_swap (t : Nat) (v : Value) (w : World) (h : w.cell? ⟨t, 3, none⟩ = some v) (n : Nat) : (method (n + 1) 71 (.pointer (some ⟨t, 3, none⟩)) "Swap").run Try.prog w = .ok (58, v) w :=
  run_method (by kernel_rfl) (by simp) (fol t w) (rec_val t v w h)
theorem m_pop (t : Nat) (w : World) (n : Nat) : (method (n + 1) 71 (.pointer (some ⟨t, 3, none⟩)) "Pop").run Try.prog w = .ok (59, .pointer (some ⟨t, 3, none⟩)) w :=
  run_method (by kernel_rfl) (by simp) (fol t w) (rec_ptr t w)
theorem m_push (t : Nat) (w : World) (n : Nat) : (method (n + 1) 71 (.pointer (some ⟨t, 3, none⟩)) "Push").run Try.prog w = .ok (60, .pointer (some ⟨t, 3, none⟩)) w :=
  run_method (by kernel_rfl) (by simp) (fol t w) (rec_ptr t w)
set_option maxHeartbeats 1000000 in
theorem hup_any (t : Nat) (c0 c1 c2 v c4 : Value) (xs : List Int) (j : Nat) (w : World) (hb : w.heap[t]? = some (.cells #[c0, c1, c2, v, c4] 56 (0, 0))) (h : w.ownsRow 0 3 1 v xs.length (ints xs)) (hne : t ∉ v.ownBlock.toList)
    (hj : j < xs.length) (hi : UpInv xs xs.length j) (hx : xs.length ≤ 100000) :
    Calls Try.prog 40 #[.iface 71 (.pointer (some ⟨t, 3, none⟩)), .int .i64 j] w fun e w' => e = .returned (.tuple #[]) ∧ ∃ ys : List Int, ys.Perm xs ∧ HeapN ys ys.length ∧ w'.ownsRow 0 3 1 v ys.length (ints ys) ∧ Fr v.ownBlock.toList w w' := by
  go_enter Try.func40, Try.ntmps40
  go_wp2
  go_loopw [1, 4] (fun a _ wr => ∃ (k : Nat) (ys : List Int), k < xs.length ∧ a = .int .i64 k ∧ RowKit.Hid (ys.length = xs.length ∧ ys.Perm xs ∧ UpInv ys ys.length k ∧ wr.ownsRow 0 3 1 v ys.length (ints ys) ∧ Fr v.ownBlock.toList w wr)) (fun a _ _ => (intOf a).toNat)
  case atStart => exact ⟨j, xs, hj, rfl, Lib.hid ⟨rfl, .refl _, hi, h, Fr.refl _ _⟩⟩
  case round =>
    obtain ⟨k, ys, hk, rfl, H⟩ := hrel
    have hb2 := H.out.2.2.2.2.at hne hb
    obtain ⟨_, _, _, k3, _, htl⟩ := blk5 hb2
    by_cases hk0 : k = 0
    · subst hk0
      go_wp2
      go_end0
      exact ⟨rfl, ys, H.out.2.1, up_stop0 H.out.2.2.1, H.out.2.2.2.1, H.out.2.2.2.2⟩
    · have hk1 : 0 < k := by omega
      obtain ⟨i, hi⟩ : ∃ i, i = (k - 1) / 2 := ⟨_, rfl⟩
      have hik : i < k := by omega
      have e1 : ((k : Int) - 1) / 2 = (i : Int) := by omega
      have e2 : ((i : Int) == (k : Int)) = false := by simp; omega
      have HI := Lib.hid hi
      clear hi
      have mS := m_less t v wr k3
      have mW := fun n m => m_swap t v (wr.drewN n) k3 m
      obtain ⟨hl, hp, hu, ho, hf⟩ := H.out
      have HL := Lib.hid hl
      have HO := Lib.hid ho
      have HF := Lib.hid hf
      have HU := Lib.hid hu
      have HP := Lib.hid hp
      have hky : k < ys.length := by omega
      have hiy : i < ys.length := by omega
      clear hl hp hu ho hf hb hb2 H
      by_cases hlt : gI ys k < gI ys i
      · go_wp2_with (first | (go_at_call 57; refine (fLess_any v ys k i _ HO.out hky hiy).mono ?_; rintro e w1 ⟨rfl, n, rfl⟩) | (go_at_call 58; refine (fSwap_any v ys i k _ (by exact HO.out) hiy hky).mono ?_; rintro e w2 ⟨rfl, ho2, hf2⟩; have HO2 := Lib.hid ho2; have HF2 := Lib.hid hf2; clear ho2 hf2))
        go_roundw
        case rel =>
          refine ⟨i, swapL ys i k, by omega, rfl, Lib.hid ⟨by rw [swapL_len, HL.out], (swapL_perm hiy hky).trans HP.out, ?_, by rw [swapL_len]; exact HO2.out, ?_⟩⟩
          · have := up_step (Nat.le_refl _) HU.out hk1 hky (by rw [← HI.out]; exact hlt)
            rw [← HI.out] at this
            rw [swapL_len]; exact this
          · exact HF.out.trans (HF2.out.like_left ⟨rfl, rfl, rfl, rfl⟩)
        case measure => simp [intOf]; omega
      · have hd : decide (gI ys k < gI ys i) = false := by simpa using hlt
        go_wp2_with (first | (go_at_call 57; refine (fLess_any v ys k i _ HO.out hky hiy).mono ?_; rintro e w1 ⟨rfl, n, rfl⟩))
        go_end0
        exact ⟨rfl, ys, HP.out, up_stop HU.out (by rw [← HI.out]; omega), HO.out, HF.out.like ⟨rfl, rfl, rfl, rfl⟩⟩

def someBool (e : Ending) : Prop := ∃ b, e = .returned (.bool b)
set_option maxHeartbeats 2000000 in
theorem hdown_any (t : Nat) (c0 c1 c2 v c4 : Value) (xs : List Int) (m : Nat) (w : World) (hb : w.heap[t]? = some (.cells #[c0, c1, c2, v, c4] 56 (0, 0))) (h : w.ownsRow 0 3 1 v xs.length (ints xs)) (hne : t ∉ v.ownBlock.toList)
    (hm : m ≤ xs.length) (hi : DownInv xs m 0) (hx : xs.length ≤ 100000) :
    Calls Try.prog 39 #[.iface 71 (.pointer (some ⟨t, 3, none⟩)), .int .i64 0, .int .i64 m] w fun e w' => someBool e ∧ ∃ ys : List Int, ys.Perm xs ∧ HeapN ys m ∧ (∀ k, m ≤ k → gI ys k = gI xs k) ∧ w'.ownsRow 0 3 1 v ys.length (ints ys) ∧ Fr v.ownBlock.toList w w' := by
  go_enter Try.func39, Try.ntmps39
  go_wp2
  go_loopw [7, 8, 9, 10] (fun a _ _ _ wr => ∃ (i : Nat) (ys : List Int), i ≤ m ∧ a = .int .i64 i ∧ RowKit.Hid (ys.length = xs.length ∧ ys.Perm xs ∧ DownInv ys m i ∧ (∀ k, m ≤ k → gI ys k = gI xs k) ∧ wr.ownsRow 0 3 1 v ys.length (ints ys) ∧ Fr v.ownBlock.toList w wr)) (fun a _ _ _ _ => m - (intOf a).toNat)
  case atStart => exact ⟨0, xs, Nat.zero_le _, rfl, Lib.hid ⟨rfl, .refl _, hi, fun _ _ => rfl, h, Fr.refl _ _⟩⟩
  case round =>
    obtain ⟨i, ys, him, rfl, H⟩ := hrel
    have hb2 := H.out.2.2.2.2.2.at hne hb
    obtain ⟨_, _, _, k3, _, htl⟩ := blk5 hb2
    obtain ⟨hl, hp, hd, hk, ho, hf⟩ := H.out
    have HL := Lib.hid hl
    have HO := Lib.hid ho
    have HF := Lib.hid hf
    have HD := Lib.hid hd
    have HP := Lib.hid hp
    have HK := Lib.hid hk
    have hmy : m ≤ ys.length := by omega
    clear hl hp hd hk ho hf hb hb2 H
    have mL1 := fun n m => m_less t v (wr.drewN n) k3 m
    have mL0 := m_less t v wr k3
    have mW := fun n m => m_swap t v (wr.drewN n) k3 m
    have mW2 := fun a n m => m_swap t v ((wr.drewN a).drewN n) k3 m
    by_cases hj : 2 * i + 1 < m
    · obtain ⟨j1, hj1⟩ : ∃ j1, j1 = 2 * i + 1 := ⟨_, rfl⟩
      obtain ⟨j2, hj2⟩ : ∃ j2, j2 = 2 * i + 2 := ⟨_, rfl⟩
      have e1 : 2 * (i : Int) + 1 = (j1 : Int) := by omega
      have e2 : (j1 : Int) + 1 = (j2 : Int) := by omega
      have q1 : j1 < m := by omega
      have two : ∀ c, 0 < c → (c - 1) / 2 = i → c = j1 ∨ c = j2 := fun c _ _ => by omega
      have p1 : (j1 - 1) / 2 = i := by omega
      have p2 : (j2 - 1) / 2 = i := by omega
      have P1 := Lib.hid p1
      have P2 := Lib.hid p2
      have TW := Lib.hid two
      have i1 : i < j1 := by omega
      have i2 : i < j2 := by omega
      clear hj1 hj2 hj two p1 p2
      have stop : ∀ j, (∀ c, 0 < c → c < m → (c - 1) / 2 = i → gI ys j ≤ gI ys c) → gI ys i ≤ gI ys j → HeapN ys m := fun j hs hle => down_stop HD.out (fun c h0 hc hp => by have := hs c h0 hc hp; omega)
      have ST := Lib.hid stop
      have step : ∀ j, 0 < j → j < m → (j - 1) / 2 = i → (∀ c, 0 < c → c < m → (c - 1) / 2 = i → gI ys j ≤ gI ys c) → gI ys j < gI ys i →
          RowKit.Hid ((swapL ys i j).length = xs.length ∧ (swapL ys i j).Perm xs ∧ DownInv (swapL ys i j) m j ∧ (∀ k, m ≤ k → gI (swapL ys i j) k = gI xs k)) := fun j h0 hjm hp hs hlt =>
        Lib.hid ⟨by rw [swapL_len, HL.out], (swapL_perm (by omega) (by omega)).trans HP.out, down_step hmy HD.out h0 hjm hp hlt hs, fun k hk => by rw [swapL_at (by omega) (by omega), if_neg (by omega), if_neg (by omega)]; exact HK.out k hk⟩
      have SP := Lib.hid step
      clear stop step
      by_cases h2 : j2 < m
      · by_cases hA : gI ys j2 < gI ys j1
        · have S2 : RowKit.Hid (∀ c, 0 < c → c < m → (c - 1) / 2 = i → gI ys j2 ≤ gI ys c) := Lib.hid (fun c h0 hc hp => by rcases TW.out c h0 hp with rfl | rfl <;> omega)
          have dA : decide (gI ys j2 < gI ys j1) = true := by simpa using hA
          by_cases hB : gI ys j2 < gI ys i
          · have SS := SP.out j2 (by omega) h2 P2.out S2.out hB
            have dB : decide (gI ys j2 < gI ys i) = true := by simpa using hB
            go_wp2_with (first | (go_at_call 57; refine (fLess_any v ys _ _ _ (by exact HO.out) (by omega) (by omega)).mono ?_; rintro e w1 ⟨rfl, n, rfl⟩) | (go_at_call 58; refine (fSwap_any v ys i j2 _ (by exact HO.out) (by omega) (by omega)).mono ?_; rintro e w2 ⟨rfl, ho2, hf2⟩; have HO2 := Lib.hid ho2; have HF2 := Lib.hid hf2; clear ho2 hf2))
            go_roundw
            case rel => exact ⟨j2, swapL ys i j2, by omega, rfl, Lib.hid ⟨SS.out.1, SS.out.2.1, SS.out.2.2.1, SS.out.2.2.2, by rw [swapL_len]; exact HO2.out, HF.out.trans (HF2.out.like_left ⟨rfl, rfl, rfl, rfl⟩)⟩⟩
            case measure => simp [intOf]; omega
          · have dB : decide (gI ys j2 < gI ys i) = false := by simpa using hB
            go_wp2_with (first | (go_at_call 57; refine (fLess_any v ys _ _ _ (by exact HO.out) (by omega) (by omega)).mono ?_; rintro e w1 ⟨rfl, n, rfl⟩))
            go_ret
            exact ⟨⟨_, rfl⟩, ys, HP.out, ST.out j2 S2.out (by omega), HK.out, HO.out, HF.out.like ⟨rfl, rfl, rfl, rfl⟩⟩
        · have S1 : RowKit.Hid (∀ c, 0 < c → c < m → (c - 1) / 2 = i → gI ys j1 ≤ gI ys c) := Lib.hid (fun c h0 hc hp => by rcases TW.out c h0 hp with rfl | rfl <;> omega)
          have dA : decide (gI ys j2 < gI ys j1) = false := by simpa using hA
          by_cases hB : gI ys j1 < gI ys i
          · have SS := SP.out j1 (by omega) q1 P1.out S1.out hB
            have dB : decide (gI ys j1 < gI ys i) = true := by simpa using hB
            go_wp2_with (first | (go_at_call 57; refine (fLess_any v ys _ _ _ (by exact HO.out) (by omega) (by omega)).mono ?_; rintro e w1 ⟨rfl, n, rfl⟩) | (go_at_call 58; refine (fSwap_any v ys i j1 _ (by exact HO.out) (by omega) (by omega)).mono ?_; rintro e w2 ⟨rfl, ho2, hf2⟩; have HO2 := Lib.hid ho2; have HF2 := Lib.hid hf2; clear ho2 hf2))
            go_roundw
            case rel => exact ⟨j1, swapL ys i j1, by omega, rfl, Lib.hid ⟨SS.out.1, SS.out.2.1, SS.out.2.2.1, SS.out.2.2.2, by rw [swapL_len]; exact HO2.out, HF.out.trans (HF2.out.like_left ⟨rfl, rfl, rfl, rfl⟩)⟩⟩
            case measure => simp [intOf]; omega
          · have dB : decide (gI ys j1 < gI ys i) = false := by simpa using hB
            go_wp2_with (first | (go_at_call 57; refine (fLess_any v ys _ _ _ (by exact HO.out) (by omega) (by omega)).mono ?_; rintro e w1 ⟨rfl, n, rfl⟩))
            go_ret
            exact ⟨⟨_, rfl⟩, ys, HP.out, ST.out j1 S1.out (by omega), HK.out, HO.out, HF.out.like ⟨rfl, rfl, rfl, rfl⟩⟩
      · have S1 : RowKit.Hid (∀ c, 0 < c → c < m → (c - 1) / 2 = i → gI ys j1 ≤ gI ys c) := Lib.hid (fun c h0 hc hp => by rcases TW.out c h0 hp with rfl | rfl <;> omega)
        by_cases hB : gI ys j1 < gI ys i
        · have SS := SP.out j1 (by omega) q1 P1.out S1.out hB
          have dB : decide (gI ys j1 < gI ys i) = true := by simpa using hB
          go_wp2_with (first | (go_at_call 57; refine (fLess_any v ys _ _ _ (by exact HO.out) (by omega) (by omega)).mono ?_; rintro e w1 ⟨rfl, n, rfl⟩) | (go_at_call 58; refine (fSwap_any v ys i j1 _ (by exact HO.out) (by omega) (by omega)).mono ?_; rintro e w2 ⟨rfl, ho2, hf2⟩; have HO2 := Lib.hid ho2; have HF2 := Lib.hid hf2; clear ho2 hf2))
          go_roundw
          case rel => exact ⟨j1, swapL ys i j1, by omega, rfl, Lib.hid ⟨SS.out.1, SS.out.2.1, SS.out.2.2.1, SS.out.2.2.2, by rw [swapL_len]; exact HO2.out, HF.out.trans (HF2.out.like_left ⟨rfl, rfl, rfl, rfl⟩)⟩⟩
          case measure => simp [intOf]; omega
        · have dB : decide (gI ys j1 < gI ys i) = false := by simpa using hB
          go_wp2_with (first | (go_at_call 57; refine (fLess_any v ys _ _ _ (by exact HO.out) (by omega) (by omega)).mono ?_; rintro e w1 ⟨rfl, n, rfl⟩))
          go_ret
          exact ⟨⟨_, rfl⟩, ys, HP.out, ST.out j1 S1.out (by omega), HK.out, HO.out, HF.out.like ⟨rfl, rfl, rfl, rfl⟩⟩
    · have hj2 : ¬ (2 * (i : Int) + 1 < m) := by omega
      go_wp2
      go_ret
      exact ⟨⟨_, rfl⟩, ys, HP.out, down_stop HD.out (fun c h0 hc hp => by omega), HK.out, HO.out, HF.out⟩
end Go.Proofs.Ytobelhfhciafcaa
