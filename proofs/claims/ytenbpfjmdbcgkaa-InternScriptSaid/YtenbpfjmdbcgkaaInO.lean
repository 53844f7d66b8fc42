/-
  The law of the chapter's example and of an invalid table. No condition.
-/
import Derived.Test.YtenbpfjmdbcgkaaInM
namespace Go.Proofs.Ytenbpfjmdbcgkaa
open Go.RowKit Go.Shelf
attribute [local go_sem] Oper.semAt_some

set_option maxRecDepth 100000 in
set_option maxHeartbeats 1000000 in
theorem each1_nil (Bt : Nat) (w : World) (hBt : w.cell? ⟨Bt, 0, none⟩ = some (.pointer none)) :
    SeqStopsK Fence.wide 4 Try.prog 32 #[.pointer (some ⟨Bt, 0, none⟩)] (fun x : Empty => nomatch x) KpE (fun _ => True) (fun _ => True) 0 w := by
  intro l J Jx W hb hJ hJx hY h0
  have hl := World.block_lt_of_cell? w _ hBt
  have hc := (hb.cell (p := ⟨Bt, 0, none⟩) hl).trans hBt
  clear hY hJ hJx hb
  refine callsIn_of_wp Try.func32 rfl trivial ?_ rfl
  simp only [Try.ntmps32, List.size_toArray, List.length_cons, List.length_nil, Nat.reduceAdd, Nat.reduceSub, Array.replicate_succ, Array.replicate_zero, List.push_toArray, List.append_toArray, List.nil_append, List.cons_append]
  gi_wp2_with (first | (refine ⟨trivial, ?_⟩; gi_at_call 29; refine (callsIn_wide.2 (made_nil _)).mono ?_; rintro e w' ⟨rfl, rfl⟩))
  refine bodyPost_ret (results_none rfl _ _ _) rfl ?_
  exact ⟨⟨_, rfl⟩, .inl ⟨[], trivial, h0⟩⟩

def baX : ByteArray := ⟨#[120]⟩
theorem nm1 : takeT [] ByteArray.empty = ([], 0, 2) := by decide +kernel
theorem nm2 : takeT [] (aN 256) = ([], 0, 2) := by unfold takeT; rw [if_pos (by rw [aN_size]; omega)]
theorem nm3 : takeT [] baX = ([(baX, 1)], 0, 0) := by decide +kernel
section
variable {w W : World} {t : Nat}
theorem n1 (h : Live w W t []) : Calls Try.prog 9 #[.pointer (some ⟨t, 0, none⟩), .string ⟨#[]⟩] W fun e w' => e = .returned (.tuple #[.int .i64 0, .int .i64 2]) ∧ Live w w' t [] := by
  have := h.take ByteArray.empty (small (by decide)) (by decide)
  rw [nm1] at this
  exact this
theorem n2 (h : Live w W t []) : Calls Try.prog 9 #[.pointer (some ⟨t, 0, none⟩), .string (aN 256)] W fun e w' => e = .returned (.tuple #[.int .i64 0, .int .i64 2]) ∧ Live w w' t [] := by
  have := h.take (aN 256) (small (by decide)) (by rw [aN_size]; omega)
  rw [nm2] at this
  exact this
theorem n3 (h : Live w W t []) : Calls Try.prog 9 #[.pointer (some ⟨t, 0, none⟩), .string ⟨#[120]⟩] W fun e w' => e = .returned (.tuple #[.int .i64 0, .int .i64 0]) ∧ Live w w' t [(baX, 1)] := by
  have := h.take baX (small (by decide)) (by decide)
  rw [nm3] at this
  exact this
theorem n4 (h : Live w W t [(baX, 1)]) : Calls Try.prog 11 #[.pointer (some ⟨t, 0, none⟩), .int .i64 0] W fun e w' => e = .returned (.tuple #[.string ⟨#[120]⟩, .int .i64 0]) ∧ W = w' := by
  have := h.text 0
  rw [show textT [(baX, 1)] 0 = baX by decide +kernel, show textE [(baX, 1)] 0 = 0 by decide +kernel] at this
  exact this
theorem n5 (h : Live w W t [(baX, 1)]) : Calls Try.prog 11 #[.pointer (some ⟨t, 0, none⟩), .int .i64 9] W fun e w' => e = .returned (.tuple #[.string ⟨#[]⟩, .int .i64 13]) ∧ W = w' := by
  have := h.text 9
  rw [show textT [(baX, 1)] 9 = ByteArray.empty by decide +kernel, show textE [(baX, 1)] 9 = 13 by decide +kernel] at this
  exact this
theorem n6 (h : Live w W t [(baX, 1)]) : Calls Try.prog 12 #[.pointer (some ⟨t, 0, none⟩), .string ⟨#[120]⟩] W fun e w' => e = .returned (.tuple #[.int .i64 0, .bool true]) ∧ W = w' := by
  have := h.find baX (by decide)
  rw [show findN [(baX, 1)] baX = 0 by decide +kernel, show findB [(baX, 1)] baX = true by decide +kernel] at this
  exact this
theorem n7 (h : Live w W t [(baX, 1)]) : Calls Try.prog 12 #[.pointer (some ⟨t, 0, none⟩), .string ⟨#[]⟩] W fun e w' => e = .returned (.tuple #[.int .i64 0, .bool false]) ∧ W = w' := by
  have := h.find ByteArray.empty (by decide)
  rw [show findN [(baX, 1)] ByteArray.empty = 0 by decide +kernel, show findB [(baX, 1)] ByteArray.empty = false by decide +kernel] at this
  exact this
theorem n8 (h : Live w W t [(baX, 1)]) : Calls Try.prog 14 #[.pointer (some ⟨t, 0, none⟩), .int .i64 (-1)] W fun e w' => e = .returned (.int .i64 13) ∧ W = w' := by
  obtain ⟨bs, ⟨M, tv, fv, f, c, frees, R, G, _⟩, _⟩ := h
  exact Drop_none t M tv fv f c [(baX, 1)] frees (-1) W R (by decide +kernel)
theorem n9 (h : Live w W t [(baX, 1)]) : Calls Try.prog 15 #[.pointer (some ⟨t, 0, none⟩), .int .i64 0] W fun e w' => e = .returned (.int .i64 1) ∧ W = w' := by
  have := h.uses 0
  rw [show usesT [(baX, 1)] 0 = 1 by decide +kernel] at this
  exact this
theorem n10 (h : Live w W t [(baX, 1)]) : Calls Try.prog 15 #[.pointer (some ⟨t, 0, none⟩), .int .i64 9] W fun e w' => e = .returned (.int .i64 0) ∧ W = w' := by
  have := h.uses 9
  rw [show usesT [(baX, 1)] 9 = 0 by decide +kernel] at this
  exact this
theorem n11 (h : Live w W t [(baX, 1)]) : Calls Try.prog 16 #[.pointer (some ⟨t, 0, none⟩)] W fun e w' => e = .returned (.int .i64 1) ∧ W = w' := len_is h 1 (by decide +kernel)
end

set_option maxRecDepth 100000 in
set_option maxHeartbeats 8000000 in
theorem names_any (w : World) : Calls Try.prog 3 #[] w fun e w' => e = .returned (.bool true) ∧ Below w.heap.size w w' := by
  refine (callsIn_wide (n := 5)).1 ?_
  have qf := seq_neq
  refine callsIn_of_wp_marks Try.func3 rfl trivial ?_ rfl
  simp only [Try.ntmps3, List.size_toArray, List.length_nil, Nat.reduceSub, Array.replicate_succ, Array.replicate_zero, List.push_toArray, List.append_toArray, List.nil_append, List.cons_append]
  gi_wp2_with (first | (refine ⟨trivial, ?_⟩; gi_at_call 7; refine (callsIn_wide.2 (lives_any _)).mono ?_; rintro e w1 ⟨rfl, h⟩; have HL := Lib.hid h; clear h) | (refine ⟨trivial, ?_⟩; gi_at_call 8; refine (callsIn_wide.2 (New_live (w.alloc (.cells #[.bool false] 4)) _ HL.out)).mono ?_; rintro e w2 ⟨t, rfl, h⟩; have H0 := Lib.hid h; clear h) | (refine ⟨trivial, ?_⟩; gi_at_call 9; refine (callsIn_wide.2 (n1 H0.out)).mono ?_; rintro e w3 ⟨rfl, h⟩; have H1 := Lib.hid h; clear h H0) | (refine ⟨trivial, ?_⟩; gi_at_call 10; refine (callsIn_wide.2 (times_a 256 _ (by omega))).mono ?_; rintro e w' ⟨rfl, rfl⟩) | (refine ⟨trivial, ?_⟩; gi_at_call 9; refine (callsIn_wide.2 (n2 H1.out)).mono ?_; rintro e w4 ⟨rfl, h⟩; have H2 := Lib.hid h; clear h H1) | (refine ⟨trivial, ?_⟩; gi_at_call 9; refine (callsIn_wide.2 (n3 H2.out)).mono ?_; rintro e w5 ⟨rfl, h⟩; have H3 := Lib.hid h; clear h H2) | (refine ⟨trivial, ?_⟩; gi_at_call 11; refine (callsIn_wide.2 (n4 H3.out)).mono ?_; rintro e w' ⟨rfl, rfl⟩; have H4 := H3; clear H3) | (refine ⟨trivial, ?_⟩; gi_at_call 11; refine (callsIn_wide.2 (n5 H4.out)).mono ?_; rintro e w' ⟨rfl, rfl⟩; have H5 := H4; clear H4) | (refine ⟨trivial, ?_⟩; gi_at_call 12; refine (callsIn_wide.2 (n6 H5.out)).mono ?_; rintro e w' ⟨rfl, rfl⟩; have H6 := H5; clear H5) | (refine ⟨trivial, ?_⟩; gi_at_call 12; refine (callsIn_wide.2 (n7 H6.out)).mono ?_; rintro e w' ⟨rfl, rfl⟩; have H7 := H6; clear H6) | (refine ⟨trivial, ?_⟩; gi_at_call 9; refine (callsIn_wide.2 (Take_nil _ _)).mono ?_; rintro e w' ⟨rfl, rfl⟩) | (refine ⟨trivial, ?_⟩; gi_at_call 11; refine (callsIn_wide.2 (Text_nil _ _)).mono ?_; rintro e w' ⟨rfl, rfl⟩) | (refine ⟨trivial, ?_⟩; gi_at_call 12; refine (callsIn_wide.2 (Find_nil _ _)).mono ?_; rintro e w' ⟨rfl, rfl⟩) | (refine ⟨trivial, ?_⟩; gi_at_call 13; refine (callsIn_wide.2 (Each_any _ _)).mono ?_; rintro e w' ⟨rfl, rfl⟩))
  have hw5 : w.heap.size ≤ w5.heap.size := by have := H7.out.bel.size; simp at this; omega
  have H8 := Lib.hid (H7.out.keep (((Below.refl _ w5).alloc (Nat.le_refl _) (.cells #[.pointer none] 23))))
  have hbox : (w5.alloc (.cells #[.pointer none] 23)).cell? ⟨w5.heap.size, 0, none⟩ = some (.pointer none) := cell_one (heap_alloc_new _ _)
  clear H7
  generalize hWl : w5.alloc (.cells #[.pointer none] 23) = Wl at *
  refine wpIn_rangeFunc_ownF rfl (by omega) (gf := 32) (lb := #[.pointer (some ⟨w5.heap.size, 0, none⟩)]) rfl trivial (enters_of Try.func32 (by kernel_rfl) rfl)
    (each1_nil w5.heap.size _ hbox) KpE.trans (fun W l o o' _ h1 h2 _ => KpE.putObj W l o o' h1 h2) (Below.refl _ _) (fun x => nomatch x)
    (fun _ W => Below Wl.heap.size Wl W) (fun _ _ _ => False) (fun s A B row hs hg hr => hs.grown hg hs.size (fun k e => (hr k e).1)) (fun _ _ _ _ _ hs _ _ => hs) (Below.refl _ _)
    (fun x => nomatch x) (fun l x => nomatch x) (fun l pre x => nomatch x) ?done (fun D c pre W _ _ h _ => h.elim)
  case done =>
    rintro D ys W hD _ hB hK
    have H9 := Lib.hid (H8.out.keep hB)
    have HK := Lib.hid hK
    have hres := (H9.out.bel.block w.heap.size (by simp)).trans (heap_alloc_new w (.cells #[.bool false] 4))
    have c0 := cell_one hres
    have f0 := blk_frozen hres 0
    have HRES := Lib.hid hres
    clear hres hB hK H8
    gi_wp2_with (first | (refine ⟨trivial, ?_⟩; gi_at_call 14; refine (callsIn_wide.2 (n8 H9.out)).mono ?_; rintro e w' ⟨rfl, rfl⟩) | (refine ⟨trivial, ?_⟩; gi_at_call 15; refine (callsIn_wide.2 (n9 H9.out)).mono ?_; rintro e w' ⟨rfl, rfl⟩; have H10 := H9; clear H9) | (refine ⟨trivial, ?_⟩; gi_at_call 15; refine (callsIn_wide.2 (n10 H10.out)).mono ?_; rintro e w' ⟨rfl, rfl⟩; have H11 := H10; clear H10) | (refine ⟨trivial, ?_⟩; gi_at_call 16; refine (callsIn_wide.2 (n11 H11.out)).mono ?_; rintro e w' ⟨rfl, rfl⟩; have H12 := H11; clear H11) | (refine ⟨trivial, ?_⟩; gi_at_call 14; refine (callsIn_wide.2 (Drop_nil _ _)).mono ?_; rintro e w' ⟨rfl, rfl⟩) | (refine ⟨trivial, ?_⟩; gi_at_call 15; refine (callsIn_wide.2 (Uses_nil _ _)).mono ?_; rintro e w' ⟨rfl, rfl⟩) | (refine ⟨trivial, ?_⟩; gi_at_call 16; refine (callsIn_wide.2 (Len_nil _)).mono ?_; rintro e w' ⟨rfl, rfl⟩))
    have hfr : Fr [w.heap.size] W (W.setCell ⟨w.heap.size, 0, none⟩ (.bool true)) := Fr.setCell W (by simp) _
    have hDn : D ∉ [w.heap.size] := fun hm => by
      simp only [List.mem_cons, List.not_mem_nil, or_false] at hm
      have := HRES.out; rw [← hm, HK.out] at this; cases this
    have hK2 := hfr.at hDn HK.out
    have hb1 : (W.setCell ⟨w.heap.size, 0, none⟩ (.bool true)).heap[w.heap.size]? = some (.cells #[.bool true] 4 (0, 0)) := blk_set HRES.out _
    have hbel : Below w.heap.size w (W.setCell ⟨w.heap.size, 0, none⟩ (.bool true)) :=
      (((Below.refl _ w).alloc (Nat.le_refl _) (.cells #[.bool false] 4)).trans (H12.out.bel.mono (by simp))).trans (hfr.below (B := w.heap.size) (by simp) (by have := H12.out.bel.size; simp at this; omega))
    have hwl : w.heap.size ≤ Wl.heap.size := by rw [← hWl]; simp; omega
    generalize hW2 : W.setCell ⟨w.heap.size, 0, none⟩ (.bool true) = W2 at *
    have hg := grownBy_putObj' W2 D (.deferred none)
    have hr : ∀ r, some D = some r → ∃ o : Obj, W2.heap[r]? = some o ∧ o.isCells = false := fun r e => by cases e; exact ⟨_, hK2, rfl⟩
    have g4 := cell_one (grown_cells hg hr hb1)
    refine ⟨by simp, .inl ⟨_, _, rfl, run_takeDeferred hK2, ?_⟩⟩
    exact ⟨.bool true, by simp [results, Try.results3, go_sem, g4], rfl, hbel.grown hg hbel.size (fun k e => by cases e; omega)⟩
end Go.Proofs.Ytenbpfjmdbcgkaa
