/-
  Texts in memory; slices.Values, slices.AppendSeq and slices.Collect of them. Conditions: as each says. slices.Sorted of slices.Values of texts: a list of the same texts, ascending. Conditions: as each says. slices.BinarySearch of ascending texts. Conditions: as each says. The bindings of a list whose variable is among others. Conditions: as each says.
-/
import Derived.Test.YtiokjjiakcbmhaaDoorSgA
import Derived.RangeFuncNested
import Derived.RangeFuncBound
import Derived.RangeFuncCalls
import Derived.RangeFuncLeaves
import Derived.RangeFuncBox
import Derived.RangeFuncWrites
import Derived.Shelf.Abstract
import Derived.Lib.SliceRun
import Derived.Shelf.RegionOpen
import Derived.OwnWalkIn
import Derived.TacticsInMore
import Derived.LoopNIn
import Derived.LoopIn
import Derived.Maps.AppendAt
import Derived.Test.YtiokjjiakcbmhaaDoorShelf
import Derived.Sort.Walk0
import Derived.Test.YtiokjjiakcbmhaaDoorSgB
namespace Go.Proofs.YtiokjjiakcbmhaaDoor
open Go.RowKit Go.Shelf
attribute [local go_sem] Oper.semAt_some

def encS (s : ByteArray) : List Value := [.string s]
theorem ES : EncK encS 1 := ⟨fun _ => rfl, fun x u h => by simp only [encS, List.mem_singleton] at h; subst h; rfl, by decide⟩
abbrev SL (w : World) (A : Option Addr) (ca : Nat) (l : List ByteArray) : Prop := SliceAt encS 1 w A ca l
abbrev SI (w : World) (A : Option Addr) (l : List ByteArray) : Prop := ItemsAt encS 1 w A l
theorem si_get {w : World} {A : Option Addr} {l : List ByteArray} (h : SI w A l) (h0 : 0 < l.length) : ∃ b o, A = some ⟨b, o, none⟩ ∧ b < w.heap.size ∧ ∀ j (h : j < l.length), w.cell? ⟨b, o + j, none⟩ = some (.string l[j]) := by
  obtain ⟨b, o, e, hb, hc⟩ := h.get h0
  exact ⟨b, o, e, hb, fun j hj => by have := hc j hj 0 _ rfl; simpa using this⟩
theorem sl_get {w : World} {A : Option Addr} {ca : Nat} {l : List ByteArray} (h : SL w A ca l) (h0 : 0 < l.length) : ∃ b o, A = some ⟨b, o, none⟩ ∧ b < w.heap.size ∧ ∀ j (h : j < l.length), w.cell? ⟨b, o + j, none⟩ = some (.string l[j]) := si_get h.items h0
theorem flatS (l : List ByteArray) : flatL encS l = l.map Value.string := by
  induction l with
  | nil => rfl
  | cons x l ih => rw [flat_cons, ih]; rfl
theorem info_S : (Tryd.prog.info? 9).map (fun i => (i.zero, i.size, i.bytes)) = some (some (.string ⟨#[]⟩), 1, 16) := by kernel_rfl

end Go.Proofs.YtiokjjiakcbmhaaDoor
namespace Go.Proofs.YtiokjjiakcbmhaaDoor
open Go.RowKit Go.Shelf Go.Sort
attribute [local go_sem] Oper.semAt_some

theorem le_dec (x y : List UInt8) : decide (x ≤ y) = !Op.bytesLess y x := by
  rw [bytesLess_eq]
  by_cases h : y < x
  · simp [h]
  · simp [h]
    exact List.not_lt.1 h
/-- the sorted texts -/
def sortS (xs : List ByteArray) : List ByteArray := ((xs.map (·.toList)).mergeSort fun x y => decide (x ≤ y)).map fun s => ⟨s.toArray⟩
theorem back (x : ByteArray) : (⟨x.toList.toArray⟩ : ByteArray) = x := ba_ext (by rw [ByteArray.toList_eq])
theorem sortS_len (xs : List ByteArray) : (sortS xs).length = xs.length := by simp [sortS, List.length_mergeSort]
theorem sortS_mem (xs : List ByteArray) (x : ByteArray) : x ∈ sortS xs ↔ x ∈ xs := by
  unfold sortS
  rw [List.mem_map]
  constructor
  · rintro ⟨s, hs, rfl⟩
    rw [List.mem_mergeSort, List.mem_map] at hs
    obtain ⟨y, hy, rfl⟩ := hs
    rwa [back]
  · intro hx
    exact ⟨x.toList, List.mem_mergeSort.2 (List.mem_map.2 ⟨x, hx, rfl⟩), back x⟩
def UpS (l : List ByteArray) : Prop := l.Pairwise fun a b => ltS b a = false
theorem sortS_up (xs : List ByteArray) : UpS (sortS xs) := by
  have h := List.pairwise_mergeSort (le := fun x y : List UInt8 => decide (x ≤ y)) (fun a b c h1 h2 => by
    simp only [decide_eq_true_eq] at *
    exact List.le_trans h1 h2) (fun a b => by
    simp only [Bool.or_eq_true, decide_eq_true_eq]
    exact List.le_total a b) (xs.map (·.toList))
  unfold UpS sortS
  rw [List.pairwise_map]
  refine h.imp fun {a b} hab => ?_
  rw [le_dec] at hab
  unfold ltS
  rw [ByteArray.toList_eq, ByteArray.toList_eq]
  simpa using hab

theorem below_putRow {α : Type} [Inhabited α] (en : α → Value) (W : World) (n g off : Nat) (d : Array α) (os : Array Obj) (B : Nat) (hB : B ≤ g) (hW : B ≤ W.heap.size) : Below B W (grow (putRow en (Sort.ahead W n) g off d) os) :=
  ⟨rfl, rfl, rfl, by simp, fun k hk => by
    rw [heap_grow_old _ _ (by simp; omega)]
    simp only [putRow, mapBlock, Sort.heap_ahead, Array.getElem?_modify]
    rw [if_neg (by omega)]⟩
end Go.Proofs.YtiokjjiakcbmhaaDoor
namespace Go.Proofs.YtiokjjiakcbmhaaDoor
open Go.RowKit

theorem eq_irr (x : ByteArray) : (x.toList != x.toList) = false := by simp
theorem hasS_true {ts : List ByteArray} {x : ByteArray} (h : x ∈ ts) : Lib.containsS ts x = true := (Lib.containsS_iff ts x).2 h
theorem hasS_false {ts : List ByteArray} {x : ByteArray} (h : ¬ x ∈ ts) : Lib.containsS ts x = false := by
  cases q : Lib.containsS ts x with
  | false => rfl
  | true => exact absurd ((Lib.containsS_iff ts x).1 q) h
theorem hasS_sort (xs : List ByteArray) (x : ByteArray) : Lib.containsS (sortS xs) x = Lib.containsS xs x := by
  cases q : Lib.containsS xs x with
  | true => exact hasS_true ((sortS_mem xs x).2 ((Lib.containsS_iff xs x).1 q))
  | false => exact hasS_false (fun h => by rw [hasS_true ((sortS_mem xs x).1 h)] at q; cases q)
/-- where the search ends -/
theorem bin_iff {ts : List ByteArray} {x : ByteArray} {p : Nat} (hu : UpS ts) (h1 : ∀ t (h : t < ts.length), t < p → ltS ts[t] x = true) (h2 : ∀ t (h : t < ts.length), p ≤ t → ltS ts[t] x = false) :
    x ∈ ts ↔ ∃ h : p < ts.length, ts[p] = x := by
  constructor
  · intro hx
    obtain ⟨j, hj, rfl⟩ := List.getElem_of_mem hx
    have hp : p ≤ j := by
      by_cases h : j < p
      · have := h1 j hj h
        rw [ltS_irr] at this
        cases this
      · omega
    have hpl : p < ts.length := by omega
    refine ⟨hpl, ltS_tri (h2 p hpl (Nat.le_refl _)) ?_⟩
    by_cases e : p = j
    · subst e; exact ltS_irr _
    · exact List.pairwise_iff_getElem.1 hu p j hpl hj (by omega)
  · rintro ⟨h, rfl⟩
    exact List.getElem_mem h

end Go.Proofs.YtiokjjiakcbmhaaDoor
namespace Go.Proofs.YtiokjjiakcbmhaaDoor
open Go.RowKit

theorem ListAt.items {w : World} {A : Option Addr} {n : Nat} {l : List ByteArray} (h : ListAt w A n (l.map Value.string)) : SI w A l := fun j hj => by
  obtain ⟨h1, h2⟩ := h
  rw [List.length_map] at h1
  rcases h2 with h2 | ⟨g, o, e, hg, hc⟩
  · omega
  · refine ⟨g, o, e, hg, fun i u hu => ?_⟩
    have hi : i = 0 := by
      have := (List.getElem?_eq_some_iff.1 hu).1
      simpa [encS] using this
    subst hi
    have hu2 : (l.map Value.string)[j]? = some u := by
      simp only [encS, List.getElem?_cons_zero, Option.some.injEq] at hu
      simp [hj, hu]
    rw [Nat.mul_one, Nat.add_zero]
    exact hc j u hu2
theorem rest_succ {l : List BindD} {vs : List ByteArray} {k : Nat} {x : BindD} (h : l[k]? = some x) : restD (l.take (k + 1)) vs = restD (l.take k) vs ++ (if Lib.containsS vs x.v then [x] else []) := by
  unfold restD
  rw [List.take_add_one, h, List.filter_append]
  congr 1
  simp only [Option.toList, List.filter_cons, List.filter_nil]
theorem rest_len (l : List BindD) (vs : List ByteArray) : (restD l vs).length ≤ l.length := List.length_filter_le _ _

end Go.Proofs.YtiokjjiakcbmhaaDoor
