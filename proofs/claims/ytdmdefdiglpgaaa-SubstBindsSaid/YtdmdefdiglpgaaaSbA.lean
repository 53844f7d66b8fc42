/-
  Bindings in memory; how far a list ascends. Conditions: as each says.
-/
import Derived.Test.YtdmdefdiglpgaaaSbD
import Derived.Test.YtdmdefdiglpgaaaGe
import Derived.Test.YtdmdefdiglpgaaaKitS
import Derived.Laws.Cover1
import Derived.Deep.QuietTactic
import Derived.BigQuiet
import Derived.IntWalk
namespace Go.Proofs.Ytdmdefdiglpgaaa
open Go.RowKit

def encB (b : BindD) : List Value := [.string b.v, .bool b.t.v, .string b.t.name]
theorem EB : EncK encB 3 := ⟨fun _ => rfl, fun x u h => by
  simp only [encB, List.mem_cons, List.mem_nil_iff, or_false] at h
  rcases h with rfl | rfl | rfl <;> rfl, by decide⟩
abbrev BL (w : World) (A : Option Addr) (ca : Nat) (l : List BindD) : Prop := SliceAt encB 3 w A ca l
theorem bl_get {w : World} {A : Option Addr} {ca : Nat} {l : List BindD} (h : BL w A ca l) (h0 : 0 < l.length) : ∃ b o, A = some ⟨b, o, none⟩ ∧ b < w.heap.size ∧
    ∀ j (h : j < l.length), w.cell? ⟨b, o + j * 3, none⟩ = some (.string l[j].v) ∧ w.cell? ⟨b, o + j * 3 + 1, none⟩ = some (.bool l[j].t.v) ∧ w.cell? ⟨b, o + j * 3 + 2, none⟩ = some (.string l[j].t.name) := by
  obtain ⟨b, o, e, hb, hc⟩ := h.items.get h0
  exact ⟨b, o, e, hb, fun j hj => ⟨hc j hj 0 _ rfl, hc j hj 1 _ rfl, hc j hj 2 _ rfl⟩⟩
/-- block b is the binding x -/
def BindAt (w : World) (b : Nat) (x : BindD) : Prop := w.heap[b]? = some (.cells #[.string x.v, .bool x.t.v, .string x.t.name] 32)
theorem BindAt.new (w : World) (x : BindD) : BindAt (w.alloc (.cells #[.string x.v, .bool x.t.v, .string x.t.name] 32)) w.heap.size x := heap_alloc_new _ _
theorem BindAt.bel {w w' : World} {b : Nat} {x : BindD} (h : BindAt w b x) (hg : Bel w w') : BindAt w' b x := (hg.block b (Array.getElem?_eq_some_iff.1 h).1).trans h
theorem BindAt.cells {w : World} {b : Nat} {x : BindD} (h : BindAt w b x) : w.cell? ⟨b, 0, none⟩ = some (.string x.v) ∧ w.cell? ⟨b, 1, none⟩ = some (.bool x.t.v) ∧ w.cell? ⟨b, 2, none⟩ = some (.string x.t.name) := by
  unfold BindAt at h
  refine ⟨?_, ?_, ?_⟩ <;> simp [World.cell?, h]

def RunOf (l : List BindD) (n : Nat) : Prop := n ≤ l.length ∧ (0 < l.length → 0 < n) ∧ Asc (l.take n) ∧ (n < l.length → ¬ Asc l)
def Up (l : List BindD) (m : Nat) : Prop := ∀ j (h : j < l.length), j < m → ∃ h0 : j - 1 < l.length, 0 < j → ltB l[j - 1] l[j] = true
theorem asc_of_up : ∀ (l : List BindD), (∀ j (h : j + 1 < l.length), ltB l[j] l[j + 1] = true) → Asc l
  | [], _ => asc_nil
  | [x], _ => asc_cons.2 ⟨by simp, asc_nil⟩
  | x :: y :: l, h => by
    have ih : Asc (y :: l) := asc_of_up (y :: l) (fun j hj => h (j + 1) (by simpa using hj))
    have h0 : ltS x.v y.v = true := h 0 (by simp)
    refine asc_cons.2 ⟨fun z hz => ?_, ih⟩
    rcases List.mem_cons.1 hz with rfl | hz
    · exact h0
    · exact ltS_trans h0 ((asc_cons.1 ih).1 z hz)
theorem asc_adj {l : List BindD} (h : Asc l) (j : Nat) (hj : j + 1 < l.length) : ltB l[j] l[j + 1] = true := List.pairwise_iff_getElem.1 h j (j + 1) (by omega) hj (by omega)
theorem up_take {l : List BindD} {m : Nat} (h : ∀ j (h : j + 1 < l.length), j + 1 < m → ltB l[j] l[j + 1] = true) : Asc (l.take m) :=
  asc_of_up _ (fun j hj => by
    rw [List.length_take] at hj
    rw [List.getElem_take, List.getElem_take]
    exact h j (by omega) (by omega))

set_option maxHeartbeats 1000000 in
theorem run_any (A : Option Addr) (l : List BindD) (ca : Nat) (w : World) (h : BL w A ca l) (hl : l.length ≤ 1000000) :
    Calls Try.prog 49 #[.slice A l.length ca] w fun e w' => (∃ n : Nat, RowKit.Hid (RunOf l n) ∧ e = .returned (.int .i64 n)) ∧ Bel w w' := by
  have HT := Lib.hid h
  clear h
  go_enter Try.func49, Try.ntmps49
  go_wp2
  go_loopw [3] (fun i wr => ∃ m : Nat, m ≤ l.length ∧ i = .int .i64 (m + 1) ∧ RowKit.Hid (Bel w wr) ∧ RowKit.Hid (∀ j (h : j + 1 < l.length), j + 1 < m + 1 → ltB l[j] l[j + 1] = true)) (fun i _ => l.length + 1 - (intOf i).toNat)
  case atStart => exact ⟨0, Nat.zero_le _, rfl, Lib.hid (Below.refl _ _), Lib.hid (by intro j _ h; omega)⟩
  case round =>
    obtain ⟨m, hm, rfl, HB, HU⟩ := hrel
    by_cases hlt : m + 1 < l.length
    · obtain ⟨b, o, rfl, hb, hc⟩ := bl_get (HT.out.bel HB.out) (by omega)
      obtain ⟨c1, _, _⟩ := hc m (by omega)
      obtain ⟨d1, _, _⟩ := hc (m + 1) hlt
      clear hc hb
      have hq : (0 : Int) ≤ m := by omega
      have hq2 : (m : Int) < l.length := by omega
      have hq3 : (m : Int) + 1 < l.length := by omega
      rcases Bool.eq_false_or_eq_true (Op.bytesLess l[m].v.toList l[m + 1].v.toList) with hv | hv
      · have HU2 : RowKit.Hid (∀ j (h : j + 1 < l.length), j + 1 < m + 1 + 1 → ltB l[j] l[j + 1] = true) := Lib.hid (fun j hj hjm => by
          by_cases e : j = m
          · subst e; exact hv
          · exact HU.out j hj (by omega))
        generalize l[m].v = x at c1 hv
        generalize l[m + 1].v = y at d1 hv
        have hw2 : IntKind.i64.wrap ((m : Int) + 1 - 1) = m := (IntWalk.i64_in _ (by omega)).trans (by omega)
        have hw : IntKind.i64.wrap (m : Int) = m := IntWalk.i64_in _ (by omega)
        go_wp2
        go_quiet (fail)
        clear hw hw2
        go_wp2
        go_roundw
        case rel => exact ⟨m + 1, by omega, by go_num, Lib.hid (HB.out.trans' (bel_drewN _ _)), HU2⟩
        case measure => simp [intOf]; omega
      · have HR : RowKit.Hid (RunOf l (m + 1)) := Lib.hid ⟨by omega, by omega, up_take HU.out, fun _ ha => by
          have := asc_adj ha m hlt
          unfold ltB ltS at this
          rw [hv] at this; cases this⟩
        generalize l[m].v = x at c1 hv
        generalize l[m + 1].v = y at d1 hv
        have hw2 : IntKind.i64.wrap ((m : Int) + 1 - 1) = m := (IntWalk.i64_in _ (by omega)).trans (by omega)
        have hw : IntKind.i64.wrap (m : Int) = m := IntWalk.i64_in _ (by omega)
        go_wp2
        go_quiet (fail)
        clear hw hw2
        go_wp2
        go_ret
        exact ⟨⟨m + 1, HR, by go_num⟩, HB.out.trans' (bel_drewN _ _)⟩
    · have HR : RowKit.Hid (RunOf l l.length) := Lib.hid ⟨Nat.le_refl _, id, by
        rw [List.take_length]
        exact asc_of_up l (fun j hj => HU.out j hj (by omega)), fun h => absurd h (Nat.lt_irrefl _)⟩
      have hq3 : ¬ ((m : Int) + 1 < l.length) := by omega
      go_wp2
      go_ret
      exact ⟨⟨l.length, HR, rfl⟩, HB.out⟩
end Go.Proofs.Ytdmdefdiglpgaaa
