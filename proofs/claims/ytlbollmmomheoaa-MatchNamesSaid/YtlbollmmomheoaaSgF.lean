/-
  Texts in memory; slices.Values, slices.AppendSeq and slices.Collect of them. Conditions: as each says. slices.Sorted of slices.Values of texts: a list of the same texts, ascending. Conditions: as each says. slices.BinarySearch of ascending texts. Conditions: as each says. The bindings of a list whose variable is among others. Conditions: as each says.
-/
import Derived.Test.YtlbollmmomheoaaSgA
import Derived.RangeFuncNested
import Derived.RangeFuncBound
import Derived.RangeFuncCalls
import Derived.RangeFuncLeaves
import Derived.RangeFuncBox
import Derived.RangeFuncWrites
import Derived.Shelf.Abstract
import Derived.Lib.SliceRun
import Derived.Shelf.RegionOpen
import Derived.OwnWalkIn
import Derived.TacticsInMore
import Derived.LoopNIn
import Derived.LoopIn
import Derived.Maps.AppendAt
import Derived.Test.YtlbollmmomheoaaShelf
import Derived.Sort.Walk0
import Derived.Test.YtlbollmmomheoaaSgB
import Derived.Test.YtlbollmmomheoaaSgC
namespace Go.Proofs.Ytlbollmmomheoaa
open Go.RowKit Go.Shelf
attribute [local go_sem] Oper.semAt_some

def encS (s : ByteArray) : List Value := [.string s]
theorem ES : EncK encS 1 := ⟨fun _ => rfl, fun x u h => by simp only [encS, List.mem_singleton] at h; subst h; rfl, by decide⟩
abbrev SL (w : World) (A : Option Addr) (ca : Nat) (l : List ByteArray) : Prop := SliceAt encS 1 w A ca l
abbrev SI (w : World) (A : Option Addr) (l : List ByteArray) : Prop := ItemsAt encS 1 w A l
theorem si_get {w : World} {A : Option Addr} {l : List ByteArray} (h : SI w A l) (h0 : 0 < l.length) : ∃ b o, A = some ⟨b, o, none⟩ ∧ b < w.heap.size ∧ ∀ j (h : j < l.length), w.cell? ⟨b, o + j, none⟩ = some (.string l[j]) := by
  obtain ⟨b, o, e, hb, hc⟩ := h.get h0
  exact ⟨b, o, e, hb, fun j hj => by have := hc j hj 0 _ rfl; simpa using this⟩
theorem sl_get {w : World} {A : Option Addr} {ca : Nat} {l : List ByteArray} (h : SL w A ca l) (h0 : 0 < l.length) : ∃ b o, A = some ⟨b, o, none⟩ ∧ b < w.heap.size ∧ ∀ j (h : j < l.length), w.cell? ⟨b, o + j, none⟩ = some (.string l[j]) := si_get h.items h0
theorem flatS (l : List ByteArray) : flatL encS l = l.map Value.string := by
  induction l with
  | nil => rfl
  | cons x l ih => rw [flat_cons, ih]; rfl
theorem info_S : (Try.prog.info? 9).map (fun i => (i.zero, i.size, i.bytes)) = some (some (.string ⟨#[]⟩), 1, 16) := by kernel_rfl

set_option maxRecDepth 100000 in
set_option maxHeartbeats 4000000 in
theorem values1_in (n : Nat) (hn : 1 ≤ n) (l Bs n₀ : Nat) (A : Option Addr) (ca : Nat) (xs : List ByteArray) (hl : xs.length ≤ 1000000) (J Jx : List ByteArray → World → Prop)
    (hY : ∀ pre x W, J pre W → pre.length < xs.length → YieldAt Fence.wide (n - 1) Try.prog l #[.string x] W fun e W' =>
      (e = .returned (.bool true) ∧ J (pre ++ [x]) W' ∧ Below n₀ W W') ∨ (e = .returned (.bool false) ∧ Jx (pre ++ [x]) W'))
    (W : World) (hBs : W.cell? ⟨Bs, 0, none⟩ = some (.slice A xs.length ca)) (hb : ∀ b o, A = some ⟨b, o, none⟩ → 0 < xs.length → b < n₀) (hX : SI W A xs) (h0 : J [] W) :
    CallsIn Fence.wide n Try.prog 74 #[.func (.yield l) #[] #[], .pointer (some ⟨Bs, 0, none⟩)] W fun e W' => (∃ v, e = .returned v) ∧ ((∃ ys, ys = xs ∧ J ys W') ∨ (∃ pre, True ∧ Jx pre W')) := by
  have HX := Lib.hid hX
  clear hX
  refine callsIn_of_wp Try.func74 rfl trivial ?_ rfl
  simp only [Try.ntmps74, List.size_toArray, List.length_cons, List.length_nil, Nat.reduceAdd, Nat.reduceSub, Array.replicate_succ, Array.replicate_zero, List.push_toArray, List.append_toArray, List.nil_append, List.cons_append]
  gi_wp2
  gi_loopw [7] (fun i wr => ∃ k : Nat, k ≤ xs.length ∧ i = .int .i64 k ∧ RowKit.Hid (J (xs.take k) wr ∧ Below n₀ W wr)) (fun i _ => xs.length - (intOf i).toNat)
  case atStart => exact ⟨0, Nat.zero_le _, rfl, Lib.hid ⟨h0, Below.refl _ _⟩⟩
  case round =>
    obtain ⟨k, hk, rfl, H⟩ := hrel
    by_cases hlt : k < xs.length
    · obtain ⟨b, o, rfl, _, hc⟩ := si_get HX.out (by omega)
      have c1 := (H.out.2.cell (p := ⟨b, o + k, none⟩) (hb b o rfl (by omega))).trans (hc k hlt)
      have HT : RowKit.Hid (xs.take (k + 1) = xs.take k ++ [xs[k]]) := Lib.hid (by rw [List.take_add_one, List.getElem?_eq_getElem hlt]; rfl)
      have HLT : RowKit.Hid ((xs.take k).length = k) := Lib.hid (by rw [List.length_take]; omega)
      have hq : (0 : Int) ≤ k := by omega
      have hq2 : (k : Int) < xs.length := by omega
      clear hc
      generalize xs[k] = x at c1 HT
      obtain ⟨fn, tmps, assign, body, hy, hR⟩ := hY _ x wr H.out.1 (by rw [HLT.out]; exact hlt)
      gi_wp2
      refine hR.mono ?_
      rintro e W3 (⟨rfl, hJ3, hk3⟩ | ⟨rfl, hJx3⟩)
      · have HN := Lib.hid (And.intro hJ3 (H.out.2.trans hk3))
        clear hJ3 hk3
        gi_wp2
        go_roundw
        case rel => exact ⟨k + 1, by omega, by go_num, Lib.hid (by rw [HT.out]; exact HN.out)⟩
        case measure => simp [intOf]; omega
      · gi_wp2
        refine bodyPost_ret (results_none rfl _ _ _) rfl ?_
        exact ⟨⟨_, rfl⟩, .inr ⟨_, trivial, hJx3⟩⟩
    · obtain rfl : k = xs.length := by omega
      gi_wp2
      go_end0
      exact ⟨⟨_, rfl⟩, .inl ⟨_, rfl, by have := H.out.1; rwa [List.take_length] at this⟩⟩

theorem values1_stops (Bs : Nat) (A : Option Addr) (ca : Nat) (xs : List ByteArray) (hl : xs.length ≤ 1000000) (w : World) (hBs : w.cell? ⟨Bs, 0, none⟩ = some (.slice A xs.length ca)) (hX : SI w A xs) (n₀ : Nat) (hn : n₀ ≤ w.heap.size) (hb : ∀ b o, A = some ⟨b, o, none⟩ → 0 < xs.length → b < n₀) :
    SeqStopsK Fence.wide 4 Try.prog 74 #[.pointer (some ⟨Bs, 0, none⟩)] (fun x : ByteArray => #[.string x]) (Below n₀) (fun ys => ys = xs) (fun _ => True) xs.length w := by
  intro l J Jx W hW hJ hJx hY h0
  exact values1_in 4 (by omega) l Bs n₀ A ca xs hl J Jx hY W (cell_bel hBs hW) hb (hX.bel hW) h0

theorem Values_any (A : Option Addr) (n ca : Nat) (w : World) : Calls Try.prog 57 #[.slice A n ca] w fun e w' => e = .returned (.func (.func 74) #[] #[.pointer (some ⟨w.heap.size, 0, none⟩)]) ∧ w' = w.alloc (.cells #[.slice A n ca] 39) := by
  go_enter Try.func57, Try.ntmps57
  go_wp2
  go_ret
  exact ⟨rfl, rfl⟩

set_option maxRecDepth 100000 in
set_option maxHeartbeats 4000000 in
theorem AppendSeq_any (Bs : Nat) (A : Option Addr) (ca : Nat) (xs : List ByteArray) (hl : xs.length ≤ 1000000) (w : World) (hBs : w.cell? ⟨Bs, 0, none⟩ = some (.slice A xs.length ca)) (hX : SI w A xs) :
    Calls Try.prog 90 #[.slice none 0 0, .func (.func 74) #[] #[.pointer (some ⟨Bs, 0, none⟩)]] w fun e w' => ∃ v, e = .returned v ∧ w'.ownsRow w.heap.size 9 1 v xs.length (xs.map Value.string) ∧ Below w.heap.size w w' := by
  have hb : ∀ b o, A = some ⟨b, o, none⟩ → 0 < xs.length → b < w.heap.size := fun b o e h0 => by
    obtain ⟨b', o', e', hlt, _⟩ := si_get hX h0
    rw [e] at e'
    injection e' with e'
    injection e' with e1 _
    omega
  refine (callsIn_wide (n := 5)).1 ?_
  obtain ⟨i0, hi, hz0, hz1, hz2⟩ := info_parts info_S
  refine callsIn_of_wp_marks Try.func90 rfl trivial ?_ rfl
  simp only [Try.ntmps90, List.size_toArray, List.length_cons, List.length_nil, Nat.reduceAdd, Nat.reduceSub, Array.replicate_succ, Array.replicate_zero, List.push_toArray, List.append_toArray, List.nil_append, List.cons_append]
  gi_wp2
  have bO := Boxed.new w 39 (.slice none 0 0)
  have hB0 : Below w.heap.size w (w.alloc (.cells #[.slice none 0 0] 39)) := (Below.refl _ w).alloc (Nat.le_refl _) _
  refine wpIn_rangeFunc_ownF rfl (by omega) (gf := 74) (lb := #[.pointer (some ⟨Bs, 0, none⟩)]) rfl trivial (enters_of Try.func74 (by kernel_rfl) rfl)
    (values1_stops Bs A ca xs hl _ (cell_bel hBs hB0) (hX.bel hB0) w.heap.size (by simp) hb) belowK_t (belowK_b (by simp)) (Below.refl _ _) (fun _ => rfl)
    (fun pre W => (∃ v, Boxed W w.heap.size 39 v ∧ W.ownsRow w.heap.size 9 1 v pre.length (pre.map Value.string) ∧ True) ∧ Below w.heap.size w W)
    (fun _ _ _ => False)
    (OwnFrom.and (Own.from (holdsRow_own w.heap.size w.heap.size 39 9 1 (fun pre : List ByteArray => pre.length) (fun pre => pre.map Value.string) (fun _ _ => True)) _) (ownFrom_below (Nat.le_refl _) (by simp)))
    (fun _ _ _ _ _ hs _ _ => hs)
    ⟨⟨_, bO, World.ownsRow_nil _ _ _ _, trivial⟩, hB0⟩
    (fun x => { tmps := #[.slice none 0 0, .func (.func 74) #[] #[.pointer (some ⟨Bs, 0, none⟩)], .pointer (some ⟨w.heap.size, 0, none⟩), undef, .slice none 0 0, .string x, .func (.func 74) #[] #[.pointer (some ⟨Bs, 0, none⟩)], .string x, undef, undef, undef, undef, undef], defers := [] }) ?assign ?body ?done ?stop
  case assign =>
    intro l x W K hK
    gi_wp2
    exact hK
  case body =>
    rintro l pre x W ⟨⟨v, hv, hrow, _⟩, hB⟩ hlt
    have hc := hv.cell
    gi_wp2_with (gi_at_builtin; refine wpListIn_append_own _ rfl _ _ 39 rfl w.heap.size 9 i0 (.string ⟨#[]⟩) 1 16 Try.underlying39 hi hz0 hz1 hz2 rfl (by decide) _ _ _ rfl (hrow.alloc _) ⟨W.heap.size, 0, none⟩ 1 1 [.string x] rfl rfl (cell_one_new _ _ _) (by simp [Value.oneCell']) (by unfold maxLen; omega) (by omega) (by have := hB.size; simp; omega) ?_; intro v' w1 hown' hgrow _; obtain ⟨g', cap', rfl⟩ := ownsRow_succ hown'; obtain ⟨hv1, hv2, hr2, hk2, hb2⟩ := hv.appended (by decide) hrow hB.size (Nat.le_refl _) hown' hgrow; have hc1 := hv1.cell; have hf1 := hv1.frozen)
    exact ⟨hk2, hb2, ⟨_, hv2, by simpa using hr2, trivial⟩, hB.trans hb2⟩
  case done =>
    rintro D ys W hD rfl ⟨⟨v, hv, hrow, _⟩, hB⟩ hK
    have hc := hv.cell
    gi_wp2
    refine ⟨by simp, .inl ⟨_, _, rfl, run_takeDeferred hK, ?_⟩⟩
    exact ⟨_, results_tmp rfl _ _ _, v, rfl, ownsRow_putObj hrow _ hK rfl, hB.trans (belowK_b (w := w) (Nat.le_refl _) W D _ _ (by simp at hD; omega) hK rfl rfl)⟩
  case stop =>
    rintro D c pre W _ _ h _
    exact h.elim
end Go.Proofs.Ytlbollmmomheoaa
namespace Go.Proofs.Ytlbollmmomheoaa
open Go.RowKit Go.Shelf Go.Sort
attribute [local go_sem] Oper.semAt_some

theorem le_dec (x y : List UInt8) : decide (x ≤ y) = !Op.bytesLess y x := by
  rw [bytesLess_eq]
  by_cases h : y < x
  · simp [h]
  · simp [h]
    exact List.not_lt.1 h
/-- the sorted texts -/
def sortS (xs : List ByteArray) : List ByteArray := ((xs.map (·.toList)).mergeSort fun x y => decide (x ≤ y)).map fun s => ⟨s.toArray⟩
theorem back (x : ByteArray) : (⟨x.toList.toArray⟩ : ByteArray) = x := ba_ext (by rw [ByteArray.toList_eq])
theorem sortS_len (xs : List ByteArray) : (sortS xs).length = xs.length := by simp [sortS, List.length_mergeSort]
theorem sortS_mem (xs : List ByteArray) (x : ByteArray) : x ∈ sortS xs ↔ x ∈ xs := by
  unfold sortS
  rw [List.mem_map]
  constructor
  · rintro ⟨s, hs, rfl⟩
    rw [List.mem_mergeSort, List.mem_map] at hs
    obtain ⟨y, hy, rfl⟩ := hs
    rwa [back]
  · intro hx
    exact ⟨x.toList, List.mem_mergeSort.2 (List.mem_map.2 ⟨x, hx, rfl⟩), back x⟩
def UpS (l : List ByteArray) : Prop := l.Pairwise fun a b => ltS b a = false
theorem sortS_up (xs : List ByteArray) : UpS (sortS xs) := by
  have h := List.pairwise_mergeSort (le := fun x y : List UInt8 => decide (x ≤ y)) (fun a b c h1 h2 => by
    simp only [decide_eq_true_eq] at *
    exact List.le_trans h1 h2) (fun a b => by
    simp only [Bool.or_eq_true, decide_eq_true_eq]
    exact List.le_total a b) (xs.map (·.toList))
  unfold UpS sortS
  rw [List.pairwise_map]
  refine h.imp fun {a b} hab => ?_
  rw [le_dec] at hab
  unfold ltS
  rw [ByteArray.toList_eq, ByteArray.toList_eq]
  simpa using hab

set_option maxHeartbeats 1000000 in
theorem Collect_any (Bs : Nat) (A : Option Addr) (ca : Nat) (xs : List ByteArray) (hl : xs.length ≤ 1000000) (w : World) (hBs : w.cell? ⟨Bs, 0, none⟩ = some (.slice A xs.length ca)) (hX : SI w A xs) :
    Calls Try.prog 72 #[.func (.func 74) #[] #[.pointer (some ⟨Bs, 0, none⟩)]] w fun e w' => ∃ q c, e = .returned (.slice q xs.length c) ∧ w'.ownsRow w.heap.size 9 1 (.slice q xs.length c) xs.length (xs.map Value.string) ∧ Bel w w' := by
  have H := Lib.hid (AppendSeq_any Bs A ca xs hl w hBs hX)
  clear hX hBs
  go_enter Try.func72, Try.ntmps72
  go_wp2_with (go_at_call 90; refine H.out.mono ?_; rintro e w' ⟨v, rfl, hr, hB⟩; obtain ⟨q, c, rfl, _, _⟩ := row_any hr)
  go_ret
  exact ⟨_, _, rfl, hr, hB⟩

theorem holds_of_row {W : World} {base g c : Nat} {xs : List ByteArray} (h : W.ownsRow base 9 1 (.slice (some ⟨g, 0, none⟩) xs.length c) xs.length (xs.map Value.string)) : Holds encStr W g 0 (xs.map (·.toList)).toArray := by
  intro j hj
  simp only [List.size_toArray, List.length_map] at hj
  rw [Nat.zero_add]
  refine ⟨(row_cell h rfl (k := j) (u := .string xs[j]) (by simp [hj])).trans ?_, row_frozen h rfl j⟩
  simp [hj, encStr]
  exact (back _).symm
theorem sl_of_holds {W : World} {g c : Nat} (ts : List ByteArray) (ss : List (List UInt8)) (hs : ts = ss.map fun s => ⟨s.toArray⟩) (hg : g < W.heap.size) (hc : ts.length ≤ c) (h : ∀ j, j < ss.length → W.cell? ⟨g, 0 + j, none⟩ = some (encStr ss.toArray[j]!)) : SL W (some ⟨g, 0, none⟩) c ts := by
  refine ⟨fun j hj => ⟨g, 0, rfl, hg, fun i u hu => ?_⟩, hc, by simp, fun a e _ => ⟨g, 0, by injection e with e; exact e.symm⟩⟩
  subst hs
  simp only [List.length_map] at hj
  have hi : i = 0 := by
    have := (List.getElem?_eq_some_iff.1 hu).1
    simpa [encS] using this
  subst hi
  have := h j hj
  simp only [encS, List.getElem?_cons_zero, Option.some.injEq, List.getElem_map] at hu
  subst hu
  rw [Nat.mul_one, Nat.add_zero, this]
  simp [hj, encStr]

theorem below_putRow {α : Type} [Inhabited α] (en : α → Value) (W : World) (n g off : Nat) (d : Array α) (os : Array Obj) (B : Nat) (hB : B ≤ g) (hW : B ≤ W.heap.size) : Below B W (grow (putRow en (Sort.ahead W n) g off d) os) :=
  ⟨rfl, rfl, rfl, by simp, fun k hk => by
    rw [heap_grow_old _ _ (by simp; omega)]
    simp only [putRow, mapBlock, Sort.heap_ahead, Array.getElem?_modify]
    rw [if_neg (by omega)]⟩
theorem Sort_row {W : World} {base c : Nat} {q : Option Addr} {xs : List ByteArray} (hr : W.ownsRow base 9 1 (.slice q xs.length c) xs.length (xs.map Value.string)) (hp : 0 < xs.length) (hl : xs.length ≤ 1000000) :
    Calls Try.prog 73 #[.slice q xs.length c] W fun e w' => e = .returned (.tuple #[]) ∧ SL w' q c (sortS xs) ∧ Below base W w' := by
  obtain ⟨g, cap, e1, ho, hlt, hcap, hmax⟩ := row_value hr hp
  injection e1 with e1 _ e3
  subst e1 e3
  have hH := holds_of_row hr
  have hx : xs.length < 4611686018427387904 := by omega
  have := Try.slices_Sort_string g 0 c (xs.map (·.toList)) W hH hlt (by rw [List.length_map]; exact hx)
  rw [List.length_map] at this
  refine this.mono ?_
  rintro e w2 ⟨rfl, n, os, rfl⟩
  refine ⟨rfl, sl_of_holds (sortS xs) _ rfl (by simp; omega) (by rw [sortS_len]; exact hcap) (fun j hj => ?_), below_putRow _ _ _ _ _ _ _ _ (hr.lt g ho).1 (Nat.le_of_lt (Nat.lt_of_le_of_lt (hr.lt g ho).1 hlt))⟩
  rw [cell?_grow _ _ _ (by simpa using hlt)]
  exact cell?_putRow encStr (Sort.ahead W n) g 0 _ _ (holds_ahead _ _ _ _ _ _ hH) (by simp [List.length_mergeSort]) j (by simpa using hj)

set_option maxHeartbeats 1000000 in
theorem Sorted_any (Bs : Nat) (A : Option Addr) (ca : Nat) (xs : List ByteArray) (hl : xs.length ≤ 1000000) (w : World) (hBs : w.cell? ⟨Bs, 0, none⟩ = some (.slice A xs.length ca)) (hX : SI w A xs) :
    Calls Try.prog 56 #[.func (.func 74) #[] #[.pointer (some ⟨Bs, 0, none⟩)]] w fun e w' => (∃ q c ts, RowKit.Hid (ts = sortS xs) ∧ RowKit.Hid (SL w' q c ts) ∧ e = .returned (.slice q ts.length c)) ∧ Bel w w' := by
  have H := Lib.hid (Collect_any Bs A ca xs hl w hBs hX)
  clear hX hBs
  by_cases h0 : xs = []
  · subst h0
    go_enter Try.func56, Try.ntmps56
    go_wp2_with (first | (go_at_call 72; refine H.out.mono ?_; rintro e w' ⟨q, c, rfl, hr, hB⟩) | (go_at_call 73; refine (Try.slices_Sort_string_none q c w').mono ?_; rintro e w2 ⟨rfl, rfl⟩))
    go_ret
    have h2 : SL w2 q c [] := by
      rcases hr.2 with ⟨e, _⟩ | ⟨g, cap, cur, e, _⟩
      · injection e with e1 _ e3
        subst e1 e3
        exact SliceAt.mkNil _
      · injection e with e1 _ e3
        subst e1 e3
        exact ⟨ItemsAt.nil _ _, by simp, by simp, fun a e _ => by injection e with e; exact ⟨g, 0, e.symm⟩⟩
    exact ⟨⟨q, c, [], Lib.hid (by simp [sortS]), Lib.hid h2, rfl⟩, hB⟩
  · have hp : 0 < xs.length := List.length_pos_iff.2 h0
    go_enter Try.func56, Try.ntmps56
    go_wp2_with (first | (go_at_call 72; refine H.out.mono ?_; rintro e w' ⟨q, c, rfl, hr, hB⟩; have hS := Sort_row hr hp hl; have hs := hB.size; clear hr) | (go_at_call 73; refine hS.mono ?_; rintro e w2 ⟨rfl, hX2, hB2⟩))
    go_ret
    exact ⟨⟨q, c, sortS xs, Lib.hid rfl, Lib.hid hX2, by simp [sortS_len]⟩, hB.trans hB2⟩
end Go.Proofs.Ytlbollmmomheoaa
namespace Go.Proofs.Ytlbollmmomheoaa
open Go.RowKit

theorem eq_irr (x : ByteArray) : (x.toList != x.toList) = false := by simp
theorem cisNaN_any (x : ByteArray) (w : World) : Calls Try.prog 93 #[.string x] w fun e w' => e = .returned (.bool false) ∧ Bel w w' := by
  go_enter Try.func93, Try.ntmps93
  go_wp2
  all_goals go_ret
  all_goals exact ⟨by simp, Below.refl _ _⟩
theorem isNaN_any (x : ByteArray) (w : World) : Calls Try.prog 76 #[.string x] w fun e w' => e = .returned (.bool false) ∧ Bel w w' := by
  go_enter Try.func76, Try.ntmps76
  go_wp2
  all_goals go_ret
  all_goals exact ⟨by simp, Below.refl _ _⟩
theorem Less_any (x y : ByteArray) (w : World) : Calls Try.prog 75 #[.string x, .string y] w fun e w' => e = .returned (.bool (ltS x y)) ∧ Bel w w' := by
  go_enter Try.func75, Try.ntmps75
  go_wp2_with (go_at_call 93; refine (cisNaN_any x _).mono ?_; rintro e w2 ⟨rfl, hg⟩)
  all_goals go_ret
  all_goals exact ⟨rfl, hg⟩
theorem hasS_true {ts : List ByteArray} {x : ByteArray} (h : x ∈ ts) : Lib.containsS ts x = true := (Lib.containsS_iff ts x).2 h
theorem hasS_false {ts : List ByteArray} {x : ByteArray} (h : ¬ x ∈ ts) : Lib.containsS ts x = false := by
  cases q : Lib.containsS ts x with
  | false => rfl
  | true => exact absurd ((Lib.containsS_iff ts x).1 q) h
theorem hasS_sort (xs : List ByteArray) (x : ByteArray) : Lib.containsS (sortS xs) x = Lib.containsS xs x := by
  cases q : Lib.containsS xs x with
  | true => exact hasS_true ((sortS_mem xs x).2 ((Lib.containsS_iff xs x).1 q))
  | false => exact hasS_false (fun h => by rw [hasS_true ((sortS_mem xs x).1 h)] at q; cases q)
/-- where the search ends -/
theorem bin_iff {ts : List ByteArray} {x : ByteArray} {p : Nat} (hu : UpS ts) (h1 : ∀ t (h : t < ts.length), t < p → ltS ts[t] x = true) (h2 : ∀ t (h : t < ts.length), p ≤ t → ltS ts[t] x = false) :
    x ∈ ts ↔ ∃ h : p < ts.length, ts[p] = x := by
  constructor
  · intro hx
    obtain ⟨j, hj, rfl⟩ := List.getElem_of_mem hx
    have hp : p ≤ j := by
      by_cases h : j < p
      · have := h1 j hj h
        rw [ltS_irr] at this
        cases this
      · omega
    have hpl : p < ts.length := by omega
    refine ⟨hpl, ltS_tri (h2 p hpl (Nat.le_refl _)) ?_⟩
    by_cases e : p = j
    · subst e; exact ltS_irr _
    · exact List.pairwise_iff_getElem.1 hu p j hpl hj (by omega)
  · rintro ⟨h, rfl⟩
    exact List.getElem_mem h

set_option maxHeartbeats 4000000 in
theorem BinSearch_any (A : Option Addr) (ts : List ByteArray) (ca : Nat) (x : ByteArray) (w : World) (hL : SL w A ca ts) (hl : ts.length ≤ 1000000) (hA : UpS ts) :
    Calls Try.prog 58 #[.slice A ts.length ca, .string x] w fun e w' => (∃ p f, RowKit.Hid (f = Lib.containsS ts x) ∧ e = .returned (.tuple #[.int .i64 p, .bool f])) ∧ Bel w w' := by
  have HL := Lib.hid hL
  have HA := Lib.hid hA
  clear hL hA
  have hmono : ∀ i j (hi : i < ts.length) (hj : j < ts.length), i ≤ j → ltS ts[j] x = true → ltS ts[i] x = true := fun i j hi hj hij h => by
    by_cases e : i = j
    · subst e; exact h
    · exact ltS_ge_trans (List.pairwise_iff_getElem.1 HA.out i j hi hj (by omega)) h
  have HM := Lib.hid hmono
  clear hmono
  go_enter Try.func58, Try.ntmps58
  go_wp2
  go_loopw [7, 8, 9] (fun s5 s6 _ wr => ∃ lo hi : Nat, s5 = .int .i64 lo ∧ s6 = .int .i64 hi ∧ lo ≤ hi ∧ hi ≤ ts.length ∧ RowKit.Hid (Bel w wr) ∧ RowKit.Hid ((∀ t (h : t < ts.length), t < lo → ltS ts[t] x = true) ∧ (∀ t (h : t < ts.length), hi ≤ t → ltS ts[t] x = false))) (fun s5 s6 _ _ => ((intOf s6) - (intOf s5)).toNat)
  case atStart => exact ⟨0, ts.length, rfl, rfl, Nat.zero_le _, Nat.le_refl _, Lib.hid (Below.refl _ _), Lib.hid ⟨fun t _ h => by omega, fun t h h2 => by omega⟩⟩
  case round =>
    obtain ⟨lo, hi, rfl, rfl, hlh, hhi, HB, HI⟩ := hrel
    by_cases hlt : lo < hi
    · have hmid : (lo + hi) / 2 < ts.length := by omega
      obtain ⟨b, o, rfl, hb, hc⟩ := sl_get HL.out (by omega)
      have c1 := cell_bel (hc _ hmid) HB.out
      clear hc hb
      have q1 : (0 : Int) ≤ ((lo : Int) + (hi : Int)) / 2 := by omega
      have q2 : ((lo : Int) + (hi : Int)) / 2 < ts.length := by omega
      have hL1 := fun W => Less_any ts[(lo + hi) / 2] x W
      cases hp : ltS ts[(lo + hi) / 2] x <;> rw [hp] at hL1
      · have HI2 : RowKit.Hid ((∀ t (h : t < ts.length), t < lo → ltS ts[t] x = true) ∧ (∀ t (h : t < ts.length), (lo + hi) / 2 ≤ t → ltS ts[t] x = false)) := Lib.hid ⟨HI.out.1, fun t h h2 => by
          cases q : ltS ts[t] x with
          | false => rfl
          | true => have := HM.out ((lo + hi) / 2) t hmid h h2 q; rw [hp] at this; cases this⟩
        clear hp
        generalize ts[(lo + hi) / 2] = y at c1 hL1
        go_wp2_with (go_at_call 75; refine (hL1 _).mono ?_; rintro e w' ⟨rfl, hg⟩; have HB := Lib.hid (HB.out.trans' hg); clear hg)
        go_roundw
        case rel => exact ⟨lo, (lo + hi) / 2, rfl, by rw [show ((lo : Int) + (hi : Int)) / 2 = (((lo + hi) / 2 : Nat) : Int) by omega], by omega, by omega, HB, HI2⟩
        case measure => simp [intOf]; omega
      · have HI2 : RowKit.Hid ((∀ t (h : t < ts.length), t < (lo + hi) / 2 + 1 → ltS ts[t] x = true) ∧ (∀ t (h : t < ts.length), hi ≤ t → ltS ts[t] x = false)) := Lib.hid ⟨fun t h h2 => HM.out t ((lo + hi) / 2) h hmid (by omega) hp, HI.out.2⟩
        clear hp
        generalize ts[(lo + hi) / 2] = y at c1 hL1
        go_wp2_with (go_at_call 75; refine (hL1 _).mono ?_; rintro e w' ⟨rfl, hg⟩; have HB := Lib.hid (HB.out.trans' hg); clear hg)
        go_roundw
        case rel => exact ⟨(lo + hi) / 2 + 1, hi, by rw [show ((lo : Int) + (hi : Int)) / 2 + 1 = (((lo + hi) / 2 + 1 : Nat) : Int) by omega], rfl, by omega, by omega, HB, HI2⟩
        case measure => simp [intOf]; omega
    · obtain rfl : hi = lo := by omega
      have HF := Lib.hid (bin_iff HA.out HI.out.1 HI.out.2)
      by_cases hlt2 : hi < ts.length
      · obtain ⟨b, o, rfl, hb, hc⟩ := sl_get HL.out (by omega)
        have c1 := cell_bel (hc _ hlt2) HB.out
        clear hc hb
        have q1 : (0 : Int) ≤ hi := by omega
        have q2 : (hi : Int) < ts.length := by omega
        by_cases hy : ts[hi] = x
        · have HD : RowKit.Hid (Lib.containsS ts x = true) := Lib.hid (hasS_true (HF.out.2 ⟨hlt2, hy⟩))
          have hy2 : (ts[hi].toList == x.toList) = true := by rw [hy]; simp
          clear hy
          generalize ts[hi] = y at c1 hy2
          go_wp2
          all_goals go_ret2
          all_goals exact ⟨⟨hi, true, Lib.hid HD.out.symm, rfl⟩, HB.out⟩
        · have HD : RowKit.Hid (Lib.containsS ts x = false) := Lib.hid (hasS_false (fun h => by obtain ⟨_, h⟩ := HF.out.1 h; exact hy h))
          have hy2 : (ts[hi].toList == x.toList) = false := toList_ne hy
          clear hy
          generalize ts[hi] = y at c1 hy2
          go_wp2_with (go_at_call 76; refine (isNaN_any _ _).mono ?_; rintro e w' ⟨rfl, hg⟩; have HB := Lib.hid (HB.out.trans' hg); clear hg)
          all_goals go_ret2
          all_goals exact ⟨⟨hi, false, Lib.hid HD.out.symm, rfl⟩, HB.out⟩
      · have HD : RowKit.Hid (Lib.containsS ts x = false) := Lib.hid (hasS_false (fun h => by obtain ⟨h, _⟩ := HF.out.1 h; exact hlt2 h))
        have q2 : ¬ (hi : Int) < ts.length := by omega
        go_wp2
        all_goals go_ret2
        refine ⟨⟨hi, ?_⟩, HB.out⟩
        first | exact ⟨false, Lib.hid HD.out.symm, rfl⟩ | exact .inl rfl
end Go.Proofs.Ytlbollmmomheoaa
namespace Go.Proofs.Ytlbollmmomheoaa
open Go.RowKit

theorem ListAt.items {w : World} {A : Option Addr} {n : Nat} {l : List ByteArray} (h : ListAt w A n (l.map Value.string)) : SI w A l := fun j hj => by
  obtain ⟨h1, h2⟩ := h
  rw [List.length_map] at h1
  rcases h2 with h2 | ⟨g, o, e, hg, hc⟩
  · omega
  · refine ⟨g, o, e, hg, fun i u hu => ?_⟩
    have hi : i = 0 := by
      have := (List.getElem?_eq_some_iff.1 hu).1
      simpa [encS] using this
    subst hi
    have hu2 : (l.map Value.string)[j]? = some u := by
      simp only [encS, List.getElem?_cons_zero, Option.some.injEq] at hu
      simp [hj, hu]
    rw [Nat.mul_one, Nat.add_zero]
    exact hc j u hu2
theorem rest_succ {l : List BindD} {vs : List ByteArray} {k : Nat} {x : BindD} (h : l[k]? = some x) : restD (l.take (k + 1)) vs = restD (l.take k) vs ++ (if Lib.containsS vs x.v then [x] else []) := by
  unfold restD
  rw [List.take_add_one, h, List.filter_append]
  congr 1
  simp only [Option.toList, List.filter_cons, List.filter_nil]
theorem rest_len (l : List BindD) (vs : List ByteArray) : (restD l vs).length ≤ l.length := List.length_filter_le _ _

set_option maxRecDepth 20000 in
set_option maxHeartbeats 4000000 in
theorem Restrict_any (A : Option Addr) (l : List BindD) (n ca : Nat) (hn : l.length = n) (V : Option Addr) (vs : List ByteArray) (nv cv : Nat) (hnv : vs.length = nv) (w : World) (hL : BL w A ca l) (hl : l.length ≤ 1000000) (hV : SI w V vs) (hv : vs.length ≤ 1000000) :
    Calls Try.prog 19 #[.slice A n ca, .slice V nv cv] w fun e w' => (∃ q c out, RowKit.Hid (out = restD l vs) ∧ RowKit.Hid (OB w w' q c out) ∧ e = .returned (.slice q out.length c)) ∧ Bel w w' := by
  subst hn hnv
  have HL := Lib.hid hL
  have HV := Lib.hid hV
  clear hL hV
  have hS := Lib.hid (Sorted_any w.heap.size V cv vs hv (w.alloc (.cells #[.slice V vs.length cv] 39)) (cell_of_block (heap_alloc_new w _) rfl) (HV.out.bel (bel_alloc w _)))
  go_enter Try.func19, Try.ntmps19
  go_wp2_with (first | (go_at_call 57; refine (Values_any V vs.length cv w).mono ?_; rintro e w1 ⟨rfl, rfl⟩) | (go_at_call 56; refine hS.out.mono ?_; rintro e w2 ⟨⟨sq, sc, ts, HT, HTL, rfl⟩, hg⟩; have HB2 := Lib.hid ((bel_alloc w (.cells #[.slice V vs.length cv] 39)).trans' hg); clear hg))
  have HU : RowKit.Hid (UpS ts) := Lib.hid (by rw [HT.out]; exact sortS_up vs)
  have htl : ts.length ≤ 1000000 := by rw [HT.out, sortS_len]; exact hv
  have HH : RowKit.Hid (∀ x, Lib.containsS ts x = Lib.containsS vs x) := Lib.hid (fun x => by rw [HT.out, hasS_sort])
  clear hS HT
  go_loopw [6, 16, 9] (fun a6 i _ wr => ∃ (k : Nat) (out : List BindD) (q : Option Addr) (c : Nat), k ≤ l.length ∧ i = .int .i64 k ∧ a6 = .slice q out.length c ∧ RowKit.Hid (out = restD (l.take k) vs ∧ OB w2 wr q c out)) (fun _ i _ _ => l.length - (intOf i).toNat)
  case atStart => exact ⟨0, [], none, 0, Nat.zero_le _, rfl, rfl, Lib.hid ⟨rfl, OB.nil _ (Below.refl _ _)⟩⟩
  case round =>
    obtain ⟨k, out, q, c, hk, rfl, rfl, H⟩ := hrel
    have HO := Lib.hid H.out.2
    have HE := Lib.hid H.out.1
    have HW : RowKit.Hid (Bel w2 wr) := Lib.hid H.out.2.bel
    have HWW := Lib.hid (HB2.out.trans' H.out.2.bel)
    clear H
    by_cases hlt : k < l.length
    · obtain ⟨b, o, rfl, hbb, hc⟩ := bl_get (HL.out.bel HWW.out) (by omega)
      obtain ⟨c1, c2, c3⟩ := hc k hlt
      have hq : (0 : Int) ≤ k := by omega
      have hq2 : (k : Int) < l.length := by omega
      have HS := Lib.hid (rest_succ (vs := vs) (List.getElem?_eq_getElem hlt))
      have hol : out.length ≤ 2000000 := by
        have h1 := HE.out
        have h2 := rest_len (l.take k) vs
        rw [← h1, List.length_take] at h2
        omega
      clear hc hbb
      generalize l[k] = x at c1 c2 c3 HS
      have hX := BindAt.new wr x
      have HO1 := Lib.hid (HO.out.bel' (bel_alloc wr (.cells #[.string x.v, .bool x.t.v, .string x.t.name] 32)))
      have HW1 := Lib.hid (HW.out.trans' (bel_alloc wr (.cells #[.string x.v, .bool x.t.v, .string x.t.name] 32)))
      obtain ⟨xv, u⟩ := x
      simp only at c1 c2 c3 hX HO1 HW1
      have hT := Lib.hid (BinSearch_any sq ts sc xv _ (HTL.out.bel HW1.out) htl HU.out)
      cases hv : Lib.containsS vs xv
      case true =>
        have HN : RowKit.Hid (restD (l.take (k + 1)) vs = out ++ [⟨xv, u⟩]) := Lib.hid (by rw [HS.out, ← HE.out, hv]; rfl)
        have HF : RowKit.Hid (Lib.containsS ts xv = true) := Lib.hid ((HH.out xv).trans hv)
        clear hv
        go_wp2_with (first | (go_at_call 58; refine hT.out.mono ?_; rintro e w4 ⟨⟨p, f, hf, rfl⟩, hg⟩; have hf := hf.out.trans HF.out; subst hf; have hX := hX.bel hg; have y1 := hX.cells.1; have y2 := hX.cells.2.1; have y3 := hX.cells.2.2; have HO4 := Lib.hid (HO1.out.bel' hg); clear hg) | (at_builtin; refine wpList_push rfl (.tmp 28) (.tmp 30) 23 Try.underlying23 rfl ⟨xv, u⟩ rfl rfl HO4.out hol ?_; intro q' c' w5 out' HX HO5))
        go_roundw
        case rel => exact ⟨k + 1, out', q', c', by omega, by go_num, rfl, Lib.hid ⟨HX.out.trans HN.out.symm, HO5.out⟩⟩
        case measure => simp [intOf]; omega
      case false =>
        have HN : RowKit.Hid (restD (l.take (k + 1)) vs = out) := Lib.hid (by rw [HS.out, ← HE.out, hv]; simp)
        have HF : RowKit.Hid (Lib.containsS ts xv = false) := Lib.hid ((HH.out xv).trans hv)
        clear hv
        go_wp2_with (go_at_call 58; refine hT.out.mono ?_; rintro e w4 ⟨⟨p, f, hf, rfl⟩, hg⟩; have hf := hf.out.trans HF.out; subst hf; have HO4 := Lib.hid (HO1.out.bel' hg); clear hg)
        go_roundw
        case rel => exact ⟨k + 1, out, q, c, by omega, by go_num, rfl, Lib.hid ⟨HN.out.symm, HO4.out⟩⟩
        case measure => simp [intOf]; omega
    · obtain rfl : k = l.length := by omega
      have HN : RowKit.Hid (out = restD l vs) := Lib.hid (by have := HE.out; rwa [List.take_length] at this)
      go_wp2
      go_ret
      exact ⟨⟨q, c, out, HN, Lib.hid (HO.out.base HB2.out), rfl⟩, HWW.out⟩
end Go.Proofs.Ytlbollmmomheoaa
