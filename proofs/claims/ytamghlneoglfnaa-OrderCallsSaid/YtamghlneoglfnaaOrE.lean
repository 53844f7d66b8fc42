/-
  The entries of a list, how they are compared and sorted. Conditions: as each says.
-/
import Derived.Test.YtamghlneoglfnaaOrB
import Derived.Test.YtamghlneoglfnaaOrK
import Derived.Test.YtamghlneoglfnaaShelfB
namespace Go.Proofs.Ytamghlneoglfnaa
open Go.RowKit

theorem EE : EncK encE 2 := ⟨fun _ => rfl, fun x u h => by
  simp only [encE, List.mem_cons, List.mem_nil_iff, or_false] at h
  rcases h with rfl | rfl <;> rfl, by decide⟩
def entZ : EntD := (⟨#[]⟩, 0)
theorem info_E : ∃ i, Try.prog.info? 54 = some i ∧ i.zero = some (.agg #[.string ⟨#[]⟩, .int .i64 0]) ∧ i.size = 2 ∧ i.bytes = 24 := by
  have h : (Try.prog.info? 54).map (fun i => (i.zero, i.size, i.bytes)) = some (some (.agg #[.string ⟨#[]⟩, .int .i64 0]), 2, 24) := by kernel_rfl
  cases hq : Try.prog.info? 54 with
  | none => rw [hq] at h; cases h
  | some i =>
    rw [hq] at h
    injection h with h
    injection h with h1 h2
    injection h2 with h2 h3
    exact ⟨i, rfl, h1, h2, h3⟩
theorem size_E : (Try.prog.info? 54).map (·.size) = some 2 := by kernel_rfl
theorem size_A : (Try.prog.info? 27).map (·.size) = some 11 := by kernel_rfl
theorem set_part {α : Type} (xs : List α) (z : α) (k : Nat) (h : k < xs.length) : (xs.take k ++ List.replicate (xs.length - k) z).set k xs[k] = xs.take (k + 1) ++ List.replicate (xs.length - (k + 1)) z := by
  have hl : (xs.take k).length = k := by rw [List.length_take]; omega
  rw [List.set_append_right _ _ (by omega), hl, Nat.sub_self, show xs.length - k = (xs.length - (k + 1)) + 1 by omega, List.replicate_succ, List.set_cons_zero, List.take_add_one, List.getElem?_eq_getElem h, Option.toList_some, List.append_assoc, List.singleton_append]
theorem part_len {α : Type} (xs : List α) (z : α) (k : Nat) (h : k ≤ xs.length) : (xs.take k ++ List.replicate (xs.length - k) z).length = xs.length := by
  rw [List.length_append, List.length_take, List.length_replicate]; omega

set_option maxRecDepth 20000 in
set_option maxHeartbeats 4000000 in
theorem entered_any (A : Option Addr) (l : List AtomD) (n ca : Nat) (hn : l.length = n) (w : World) (hL : AL w A ca l) (hl : l.length ≤ 100000) (hs : SmA l) :
    Calls Try.prog 32 #[.slice A n ca] w fun e w' => (∃ g, RowKit.Hid (BlkL encE 54 w' g (entsD l) ∧ w.heap.size ≤ g) ∧ e = .returned (.slice (some ⟨g, 0, none⟩) l.length l.length)) ∧ Bel w w' := by
  subst hn
  obtain ⟨i0, hi, hz0, hz1, hz2⟩ := info_E
  have HL := Lib.hid hL
  have HS := Lib.hid hs
  clear hL hs
  go_enter Try.func32, Try.ntmps32
  go_wp2_with (refine wpList_make_items EE rfl (.tmp 7) (.tmp 7) 50 rfl i0 _ entZ Try.underlying50 hi hz0 hz1 rfl l.length rfl rfl (by rw [hz2]; omega) (by unfold maxLen; omega) ?_; intro w1 hB1 hg1; have HB1 := Lib.hid hB1; have HG1 := Lib.hid hg1; clear hB1 hg1)
  go_loopw [11] (fun i wr => ∃ k : Nat, k ≤ l.length ∧ i = .int .i64 k ∧ RowKit.Hid (BlkL encE 54 wr w.heap.size ((entsD l).take k ++ List.replicate ((entsD l).length - k) entZ)) ∧ RowKit.Hid (Bel w wr)) (fun i _ => l.length - (intOf i).toNat)
  case atStart => exact ⟨0, Nat.zero_le _, rfl, Lib.hid (by simpa [ents_len] using HB1.out), HG1⟩
  case round =>
    obtain ⟨k, hk, rfl, HK, HB⟩ := hrel
    clear HB1 HG1
    by_cases hlt : k < l.length
    case neg =>
      obtain rfl : k = l.length := by omega
      have HE : RowKit.Hid (BlkL encE 54 wr w.heap.size (entsD l)) := Lib.hid (by have := HK.out; rw [← ents_len l] at this; simpa using this)
      go_wp2
      go_ret
      exact ⟨⟨_, Lib.hid ⟨HE.out, Nat.le_refl _⟩, rfl⟩, HB.out⟩
    obtain ⟨b, o, rfl, hbb, hc⟩ := al_get (HL.out.bel HB.out) (by omega)
    obtain ⟨c0, c1, c2, c3, c4, c5, c6, c7, c8, c9, c10⟩ := hc k hlt
    have hq : (0 : Int) ≤ k := by omega
    have hq2 : (k : Int) < l.length := by omega
    have HX := Lib.hid (HS.out _ (List.getElem_mem hlt))
    have HY : RowKit.Hid (((entsD l).take k ++ List.replicate ((entsD l).length - k) entZ).set k (textD l[k], k) = (entsD l).take (k + 1) ++ List.replicate ((entsD l).length - (k + 1)) entZ) := Lib.hid (by
      have := set_part (entsD l) entZ k (by rw [ents_len]; exact hlt)
      rwa [ents_get l k hlt] at this)
    have HN : RowKit.Hid (k < ((entsD l).take k ++ List.replicate ((entsD l).length - k) entZ).length) := Lib.hid (by rw [part_len _ _ _ (by rw [ents_len]; exact hk), ents_len]; exact hlt)
    clear hc hbb
    generalize l[k] = x at c0 c1 c2 c3 c4 c5 c6 c7 c8 c9 c10 HX HY
    have HA := Lib.hid (bel_alloc wr (.cells #[.string x.says, .string x.pred, .int .i64 x.n, .bool x.t0.v, .string x.t0.name, .bool x.t1.v, .string x.t1.name, .bool x.t2.v, .string x.t2.name, .bool x.t3.v, .string x.t3.name] 27))
    have HP := Lib.hid (AtomAt.new wr x)
    obtain ⟨x0, x1, x2, x3, x4, x5, x6, x7, x8, x9, x10⟩ := HP.out.cells
    have HTX := Lib.hid (fun W => text_any x W HX.out)
    generalize textD x = tx at HTX HY
    go_wp2_with (first | (go_at_call 41; refine (HTX.out _).mono ?_; rintro e w2 ⟨rfl, hg⟩; have HG := Lib.hid (HB.out.trans' (HA.out.trans' hg)); have HK2 := Lib.hid (HK.out.bel (HA.out.trans' hg)); clear hg) | (refine wpList_store_item EE size_E rfl (.tmp 22) (.tmp 21) rfl w.heap.size k (tx, k) rfl rfl HK2.out HN.out ?_; intro w3 hB3 hF3; have HG3 : RowKit.Hid (Bel w w3) := Lib.hid (HG.out.trans (hF3.below (B := w.heap.size) (fun j hj => by have := List.mem_singleton.1 hj; omega) HG.out.size)); have HB3 := Lib.hid hB3; clear hB3 hF3))
    go_roundw
    case rel => exact ⟨k + 1, by omega, by go_num, Lib.hid (by rw [← HY.out]; exact HB3.out), HG3⟩
    case measure => simp [intOf]; omega

theorem cOr_any (b : Nat) (x y : Int) (w : World) (h1 : w.cell? ⟨b, 0, none⟩ = some (.int .i64 x)) (h2 : w.cell? ⟨b, 1, none⟩ = some (.int .i64 y)) (k1 : x = -1 ∨ x = 0 ∨ x = 1) (k2 : y = -1 ∨ y = 0 ∨ y = 1) :
    Calls Try.prog 49 #[.slice (some ⟨b, 0, none⟩) 2 2] w fun e w' => e = .returned (.int .i64 (if x = 0 then y else x)) ∧ w' = w := by
  rcases k1 with rfl | rfl | rfl <;> rcases k2 with rfl | rfl | rfl
  all_goals
    go_enter Try.func49, Try.ntmps49
    go_wp2
    go_rounds 3
    all_goals go_ret
    all_goals exact ⟨rfl, rfl⟩
theorem cmpI_cases (x y : Int) : Lib.compareInt x y = -1 ∨ Lib.compareInt x y = 0 ∨ Lib.compareInt x y = 1 := by
  unfold Lib.compareInt
  split
  · exact .inl rfl
  · split
    · exact .inr (.inr rfl)
    · exact .inr (.inl rfl)
set_option maxRecDepth 20000 in
set_option maxHeartbeats 4000000 in
theorem compare_any (x y : EntD) (w : World) : Calls Try.prog 34 #[.agg #[.string x.1, .int .i64 x.2], .agg #[.string y.1, .int .i64 y.2]] w fun e w' => e = .returned (.int .i64 (cfE x y)) ∧ ∃ q os, w' = Sort.grow (w.drewN q) os := by
  obtain ⟨s, i⟩ := x
  obtain ⟨t, j⟩ := y
  have hr : cfE (s, i) (t, j) = if cmpS s t = 0 then Lib.compareInt i j else cmpS s t := rfl
  have hC := fun W => sCmp_any s t W
  have hI := fun W => cInt_any (i : Int) (j : Int) W
  have k1 := cmpS_cases s t
  have k2 := cmpI_cases (i : Int) (j : Int)
  rw [hr]
  clear hr
  generalize cmpS s t = cs at hC k1 ⊢
  generalize Lib.compareInt (i : Int) (j : Int) = ci at hI k2 ⊢
  have HC := Lib.hid hC
  have HI := Lib.hid hI
  have HK1 := Lib.hid k1
  have HK2 := Lib.hid k2
  have HR : ∃ r, RowKit.Hid (r = if cs = 0 then ci else cs) := ⟨_, Lib.hid rfl⟩
  obtain ⟨r, HR⟩ := HR
  rw [← HR.out]
  have hO : ∀ (b : Nat) (W : World), W.cell? ⟨b, 0, none⟩ = some (.int .i64 cs) → W.cell? ⟨b, 1, none⟩ = some (.int .i64 ci) → Calls Try.prog 49 #[.slice (some ⟨b, 0, none⟩) 2 2] W fun e w' => e = .returned (.int .i64 r) ∧ w' = W := fun b W h1 h2 => by
    rw [HR.out]; exact cOr_any b cs ci W h1 h2 HK1.out HK2.out
  have hO2 : Calls Try.prog 49 #[.slice (some ⟨w.heap.size + 1 + 1, 0, none⟩) 2 2] (((w.alloc (.cells #[.string s, .int .i64 i] 54)).alloc (.cells #[.string t, .int .i64 j] 54)).alloc (.cells #[.int .i64 cs, .int .i64 ci] 3)).drew fun e w' => e = .returned (.int .i64 r) ∧ w' = (((w.alloc (.cells #[.string s, .int .i64 i] 54)).alloc (.cells #[.string t, .int .i64 j] 54)).alloc (.cells #[.int .i64 cs, .int .i64 ci] 3)).drew := by
    have h := heap_alloc_new ((w.alloc (.cells #[.string s, .int .i64 i] 54)).alloc (.cells #[.string t, .int .i64 j] 54)) (.cells #[.int .i64 cs, .int .i64 ci] 3)
    rw [show ((w.alloc (.cells #[.string s, .int .i64 i] 54)).alloc (.cells #[.string t, .int .i64 j] 54)).heap.size = w.heap.size + 1 + 1 by simp] at h
    exact hO _ _ (cell_of_block (j := 0) (v := .int .i64 cs) h rfl) (cell_of_block (j := 1) (v := .int .i64 ci) h rfl)
  have HO := Lib.hid hO2
  clear hC hI k1 k2 HR hO hO2
  have hP : ((w.alloc (.cells #[.string s, .int .i64 i] 54)).alloc (.cells #[.string t, .int .i64 j] 54)).heap[w.heap.size]? = some (.cells #[.string s, .int .i64 i] 54 (0, 0)) := blk_alloc (heap_alloc_new _ _) _
  have hQ : ((w.alloc (.cells #[.string s, .int .i64 i] 54)).alloc (.cells #[.string t, .int .i64 j] 54)).heap[w.heap.size + 1]? = some (.cells #[.string t, .int .i64 j] 54 (0, 0)) := by
    have := heap_alloc_new (w.alloc (.cells #[.string s, .int .i64 i] 54)) (.cells #[.string t, .int .i64 j] 54)
    rwa [show (w.alloc (.cells #[.string s, .int .i64 i] 54)).heap.size = w.heap.size + 1 by simp] at this
  have c0 := cell_of_block (j := 0) (v := .string s) hP rfl
  have c1 := cell_of_block (j := 1) (v := .int .i64 i) hP rfl
  have d0 := cell_of_block (j := 0) (v := .string t) hQ rfl
  have d1 := cell_of_block (j := 1) (v := .int .i64 j) hQ rfl
  have HC0 := Lib.hid c0
  have HC1 := Lib.hid c1
  have HD0 := Lib.hid d0
  have HD1 := Lib.hid d1
  clear hP hQ
  go_enter Try.func34, Try.ntmps34
  go_wp2
  go_region_held3 (fun w' => w'.cell? ⟨w.heap.size, 0, none⟩ = some (.string s) ∧ w'.cell? ⟨w.heap.size, 1, none⟩ = some (.int .i64 i) ∧ w'.cell? ⟨w.heap.size + 1, 0, none⟩ = some (.string t) ∧ w'.cell? ⟨w.heap.size + 1, 1, none⟩ = some (.int .i64 j)) (first | exact ⟨HC0.out, HC1.out, HD0.out, HD1.out⟩ | go_keep | trivial)
    (first | (go_at_call 50; refine (HC.out _).mono ?_; rintro e w9 ⟨rfl, rfl⟩) | (go_at_call 51; refine (HI.out _).mono ?_; rintro e w9 ⟨rfl, rfl⟩) | (go_at_call 49; refine HO.out.mono ?_; rintro e w9 ⟨rfl, rfl⟩))
  all_goals go_wp2
  all_goals go_ret
  all_goals exact ⟨rfl, 1, _, by rw [Sort.alloc_eq_grow, Sort.alloc_eq_grow, Sort.alloc_eq_grow, Sort.grow_grow, Sort.grow_grow]; rfl⟩
set_option maxHeartbeats 1000000 in
theorem alike_any (x y : EntD) (w : World) : Calls Try.prog 36 #[.agg #[.string x.1, .int .i64 x.2], .agg #[.string y.1, .int .i64 y.2]] w fun e w' => e = .returned (.bool (x.1 == y.1)) ∧ Bel w w' := by
  obtain ⟨s, i⟩ := x
  obtain ⟨t, j⟩ := y
  have hb := (bel_alloc w (.cells #[.string s, .int .i64 i] 54)).trans' (bel_alloc (w.alloc (.cells #[.string s, .int .i64 i] 54)) (.cells #[.string t, .int .i64 j] 54))
  show Calls Try.prog 36 _ _ fun e w' => e = .returned (.bool (s == t)) ∧ Bel w w'
  cases h : (s == t)
  · have h1 : (s.toList == t.toList) = false := toList_ne (fun e => by rw [(ba_eq s t).2 e] at h; cases h)
    clear h
    go_enter Try.func36, Try.ntmps36
    go_wp2
    all_goals go_ret
    all_goals exact ⟨rfl, hb⟩
  · have h1 : (s.toList == t.toList) = true := toList_eq ((ba_eq s t).1 h)
    clear h
    go_enter Try.func36, Try.ntmps36
    go_wp2
    all_goals go_ret
    all_goals exact ⟨rfl, hb⟩
end Go.Proofs.Ytamghlneoglfnaa
