/-
  The walks of package intern over its heap: container/heap's Push and Pop, the next number, a number taken back. Conditions: the blocks are the table's own.
-/
import Derived.Test.YtobelhfhciafcaaInB
namespace Go.Proofs.Ytobelhfhciafcaa
open Go.RowKit

theorem pop_start {xs : List Int} {n : Nat} (h : HeapN xs xs.length) (hn : xs.length = n + 1) : DownInv (swapL xs 0 n) n 0 :=
  down_start (fun k h0 hk hp => by
    rw [swapL_at (by omega) (by omega), swapL_at (by omega) (by omega), if_neg (by omega), if_neg (by omega), if_neg (by omega), if_neg (by omega)]
    exact h k h0 (by omega))
theorem pop_end {xs ys : List Int} {n : Nat} (h : HeapN xs xs.length) (hn : xs.length = n + 1) (hp : ys.Perm (swapL xs 0 n)) (hh : HeapN ys n) (hl : gI ys n = gI (swapL xs 0 n) n) :
    ∃ zs, ys = zs ++ [gI xs 0] ∧ zs.length = n ∧ HeapN zs zs.length ∧ (zs ++ [gI xs 0]).Perm xs ∧ ∀ y ∈ zs, gI xs 0 ≤ y := by
  have hyl : ys.length = n + 1 := by rw [hp.length_eq, swapL_len, hn]
  rw [swapL_at (by omega) (by omega), if_pos rfl] at hl
  have e : ys = ys.take n ++ [gI xs 0] := by
    apply List.ext_getElem
    · simp [hyl]
    · intro k h1 h2
      by_cases hk : k < n
      · rw [List.getElem_append_left (by simp; omega)]; simp
      · obtain rfl : k = n := by omega
        rw [List.getElem_append_right (by rw [List.length_take]; omega)]
        simp only [List.getElem_singleton]
        rw [← hl, gI_at h1]
  have hperm : (ys.take n ++ [gI xs 0]).Perm xs := by rw [← e]; exact hp.trans (swapL_perm (by omega) (by omega))
  refine ⟨ys.take n, e, by simp [hyl], ?_, hperm, ?_⟩
  · have := heap_take hh
    rw [List.length_take, hyl]
    simpa using this
  · intro y hy
    have : y ∈ xs := hperm.mem_iff.1 (by simp [hy])
    obtain ⟨k, hk, rfl⟩ := List.mem_iff_getElem.1 this
    rw [← gI_at hk]
    exact heap_min h k hk

set_option maxHeartbeats 2000000 in
theorem hPop_any (t : Nat) (c0 c1 c2 v c4 : Value) (xs : List Int) (w : World) (hb : w.heap[t]? = some (.cells #[c0, c1, c2, v, c4] 56 (0, 0))) (h : w.ownsRow 0 3 1 v xs.length (ints xs)) (hne : t ∉ v.ownBlock.toList)
    (hh : HeapN xs xs.length) (h0 : 0 < xs.length) (hx : xs.length ≤ 100000) :
    Calls Try.prog 36 #[.iface 71 (.pointer (some ⟨t, 3, none⟩))] w fun e w' => ∃ x, e = .returned (.iface 3 (.int .i64 x)) ∧ ∃ (v' : Value) (zs : List Int), (zs ++ [x]).Perm xs ∧ HeapN zs zs.length ∧ (∀ y ∈ zs, x ≤ y) ∧
      w'.heap[t]? = some (.cells #[c0, c1, c2, v', c4] 56 (0, 0)) ∧ w'.ownsRow 0 3 1 v' zs.length (ints zs) ∧ Fr (t :: v.ownBlock.toList) w w' ∧ v'.ownBlock = v.ownBlock := by
  obtain ⟨n, hn⟩ : ∃ n, xs.length = n + 1 := ⟨xs.length - 1, by omega⟩
  have HS := Lib.hid (pop_start hh hn)
  have HE := Lib.hid (fun ys => pop_end (ys := ys) hh hn)
  obtain ⟨_, _, _, k3, _, htl⟩ := blk5 hb
  obtain ⟨g, cap, rfl, hg, hlt, hcap, hmax⟩ := row_value h h0
  have mL := m_len t _ w k3
  have mW := m_swap t _ w k3
  have eN : (xs.length : Int) - 1 = (n : Int) := by omega
  have HB := Lib.hid hb
  have HO := Lib.hid h
  have HN := Lib.hid hn
  have HNE := Lib.hid hne
  clear hb h hh hn hne hg
  go_enter Try.func36, Try.ntmps36
  go_wp2_with (first | (go_at_call 35; refine (fLen_any _ _ _ _).mono ?_; rintro e w' ⟨rfl, rfl⟩) | (go_at_call 58; refine (fSwap_any _ xs 0 n _ (by exact HO.out) (by omega) (by have := HN.out; omega)).mono ?_; rintro e w2 ⟨rfl, ho2, hf2⟩; have HB2 := Lib.hid (hf2.at HNE.out HB.out); have mP := fun w' => m_pop t w'; have HO2 := Lib.hid ho2; have HF2 := Lib.hid hf2; clear ho2 hf2) | (go_at_call 39; refine (hdown_any t c0 c1 c2 _ c4 (swapL xs 0 n) n _ HB2.out (by rw [swapL_len]; exact HO2.out) HNE.out (by rw [swapL_len]; omega) HS.out (by rw [swapL_len]; omega)).mono ?_; rintro e w3 ⟨⟨b, rfl⟩, ys, hp3, hh3, hk3, ho3, hf3⟩; obtain ⟨zs, rfl, hz1, hz2, hz3, hz4⟩ := HE.out ys hp3 hh3 (hk3 n (Nat.le_refl _)); have HB3 := Lib.hid (hf3.at HNE.out HB2.out); have HO3 := Lib.hid ho3; have HF3 := Lib.hid hf3; have HZ := Lib.hid (And.intro hz2 (And.intro hz3 hz4)); clear hp3 hh3 hk3 ho3 hf3 hz1 hz2 hz3 hz4) | (go_at_call 59; refine (fPop_any t c0 c1 c2 _ c4 zs (gI xs 0) _ HB3.out HO3.out HNE.out).mono ?_; rintro e w4 ⟨rfl, v', hb4, ho4, hf4, hv4⟩; have H4 := Lib.hid (And.intro hb4 (And.intro ho4 (And.intro hf4 hv4))); clear hb4 ho4 hf4 hv4))
  go_ret
  exact ⟨_, rfl, v', zs, HZ.out.2.1, HZ.out.1, HZ.out.2.2, H4.out.1, H4.out.2.1, ((HF2.out.trans HF3.out).wider (fun k hk => .inl (List.mem_cons_of_mem _ hk))).trans (H4.out.2.2.1.wider (fun k hk => .inl (by simp at hk; simp [hk]))), H4.out.2.2.2⟩

theorem push_start {xs : List Int} {x : Int} (h : HeapN xs xs.length) : UpInv (xs ++ [x]) (xs ++ [x]).length xs.length := by
  have := up_start (xs := xs ++ [x]) (n := (xs ++ [x]).length) (by simpa using heap_snoc h)
  simpa using this
set_option maxHeartbeats 2000000 in
theorem hPush_any (t : Nat) (c0 c1 c2 v c4 : Value) (xs : List Int) (x : Int) (w : World) (hb : w.heap[t]? = some (.cells #[c0, c1, c2, v, c4] 56 (0, 0))) (h : w.ownsRow 0 3 1 v xs.length (ints xs)) (hne : t ∉ v.ownBlock.toList)
    (hh : HeapN xs xs.length) (hx : xs.length ≤ 90000) :
    Calls Try.prog 38 #[.iface 71 (.pointer (some ⟨t, 3, none⟩)), .iface 3 (.int .i64 x)] w fun e w' => e = .returned (.tuple #[]) ∧ ∃ (v' : Value) (ys : List Int), ys.Perm (xs ++ [x]) ∧ HeapN ys ys.length ∧
      w'.heap[t]? = some (.cells #[c0, c1, c2, v', c4] 56 (0, 0)) ∧ w'.ownsRow 0 3 1 v' ys.length (ints ys) ∧ Fr (t :: v.ownBlock.toList) w w' ∧ (∀ g, v'.ownBlock = some g → v.ownBlock = some g ∨ w.heap.size ≤ g) := by
  have HS := Lib.hid (push_start (x := x) hh)
  obtain ⟨_, _, _, k3, _, htl⟩ := blk5 hb
  have mP := m_push t w
  have HB := Lib.hid hb
  have HO := Lib.hid h
  have HNE := Lib.hid hne
  clear hb h hh hne
  go_enter Try.func38, Try.ntmps38
  go_wp2_with (first | (go_at_call 60; refine (fPush_any t c0 c1 c2 v c4 xs x _ HB.out HO.out (by omega) HNE.out).mono ?_; rintro e w2 ⟨rfl, v2, hb2, ho2, hf2, hv2⟩; have hn2 : t ∉ v2.ownBlock.toList := new_not hv2 HNE.out htl; obtain ⟨g2, cap2, rfl, _, _, _, _⟩ := row_value ho2 (by omega); obtain ⟨_, _, _, k32, _, htl2⟩ := blk5 hb2; have mL := m_len t _ w2 k32; have HN2 := Lib.hid hn2; have H2 := Lib.hid (And.intro hf2 hv2); have HO2 := Lib.hid ho2; have HB2 := Lib.hid hb2; clear hn2 hf2 hv2 ho2 hb2) | (go_at_call 35; refine (fLen_any _ _ _ _).mono ?_; rintro e w' ⟨rfl, rfl⟩) | (go_at_call 40; refine (hup_any t c0 c1 c2 _ c4 (xs ++ [x]) xs.length _ HB2.out (by simpa using HO2.out) HN2.out (by simp) HS.out (by simp; omega)).mono ?_; rintro e w3 ⟨rfl, ys, hp3, hh3, ho3, hf3⟩; have H3 := Lib.hid (And.intro hp3 (And.intro hh3 (And.intro ho3 hf3))); clear hp3 hh3 ho3 hf3))
  go_end0
  refine ⟨rfl, _, ys, H3.out.1, H3.out.2.1, H3.out.2.2.2.at HN2.out HB2.out, H3.out.2.2.1, ?_, H2.out.2⟩
  refine H2.out.1.step H3.out.2.2.2 (fun j hj => ?_)
  have hg : (Value.slice (some ⟨g2, 0, none⟩) (xs.length + 1) cap2).ownBlock = some j := by simpa using hj
  rcases H2.out.2 j hg with h | h
  · left; simp [h]
  · exact .inr h
end Go.Proofs.Ytobelhfhciafcaa
