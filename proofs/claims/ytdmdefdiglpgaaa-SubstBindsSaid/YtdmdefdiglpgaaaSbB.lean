/-
  Finding in an ascending list. Conditions: as each says.
-/
import Derived.Test.YtdmdefdiglpgaaaSbA
import Derived.Test.YtdmdefdiglpgaaaTmMa
import Derived.Laws.ResultCell
namespace Go.Proofs.Ytdmdefdiglpgaaa
open Go.RowKit

set_option maxHeartbeats 1000000 in
theorem place1_any (A : Option Addr) (l : List BindD) (ca : Nat) (x : ByteArray) (b1 b2 i : Nat) (w : World) (hL : BL w A ca l) (hi : i < l.length) (hl : l.length ≤ 1000000)
    (h1 : w.cell? ⟨b1, 0, none⟩ = some (.slice A l.length ca)) (h2 : w.cell? ⟨b2, 0, none⟩ = some (.string x)) :
    Calls Try.prog 74 #[.int .i64 i, .pointer (some ⟨b1, 0, none⟩), .pointer (some ⟨b2, 0, none⟩)] w fun e w' => e = .returned (.bool (!ltS l[i].v x)) ∧ Bel w w' := by
  obtain ⟨b, o, rfl, hb, hc⟩ := bl_get hL (by omega)
  obtain ⟨c1, _, _⟩ := hc i hi
  clear hc hb hL
  have hE : ltS l[i].v x = Op.bytesLess l[i].v.toList x.toList := rfl
  rw [hE]
  clear hE
  generalize l[i].v = y at c1 ⊢
  have hq : (0 : Int) ≤ i := by omega
  have hq2 : (i : Int) < l.length := by omega
  go_enter Try.func74, Try.ntmps74
  go_wp2
  go_quiet (fail)
  go_wp2
  all_goals go_ret
  all_goals exact ⟨by simp_all, bel_drewN _ _⟩

set_option maxHeartbeats 2000000 in
/-- sort.Search over the closure of place, at an ascending list -/
theorem search_any (A : Option Addr) (l : List BindD) (ca : Nat) (x : ByteArray) (b1 b2 : Nat) (w : World) (hL : BL w A ca l) (hl : l.length ≤ 1000000) (hA : Asc l)
    (h1 : w.cell? ⟨b1, 0, none⟩ = some (.slice A l.length ca)) (h2 : w.cell? ⟨b2, 0, none⟩ = some (.string x)) :
    Calls Try.prog 73 #[.int .i64 l.length, .func (.func 74) #[] #[.pointer (some ⟨b1, 0, none⟩), .pointer (some ⟨b2, 0, none⟩)]] w fun e w' => e = .returned (.int .i64 (placeN l x)) ∧ Bel w w' := by
  have HL := Lib.hid hL
  have H1 := Lib.hid h1
  have H2 := Lib.hid h2
  have HA := Lib.hid hA
  clear hL h1 h2 hA
  have hmono : ∀ i j (hi : i < l.length) (hj : j < l.length), i ≤ j → ltS l[j].v x = true → ltS l[i].v x = true := fun i j hi hj hij h => by
    by_cases e : i = j
    · subst e; exact h
    · exact ltS_trans (List.pairwise_iff_getElem.1 HA.out i j hi hj (by omega)) h
  have HM := Lib.hid hmono
  clear hmono
  go_enter Try.func73, Try.ntmps73
  go_wp2
  go_loopw [5, 6] (fun s5 s6 wr => ∃ lo hi : Nat, s5 = .int .i64 lo ∧ s6 = .int .i64 hi ∧ lo ≤ hi ∧ hi ≤ l.length ∧ RowKit.Hid (Bel w wr) ∧ RowKit.Hid ((∀ t (h : t < l.length), t < lo → ltS l[t].v x = true) ∧ (∀ t (h : t < l.length), hi ≤ t → ltS l[t].v x = false))) (fun s5 s6 _ => ((intOf s6) - (intOf s5)).toNat)
  case atStart => exact ⟨0, l.length, rfl, rfl, Nat.zero_le _, Nat.le_refl _, Lib.hid (Below.refl _ _), Lib.hid ⟨fun t _ h => by omega, fun t h h2 => by omega⟩⟩
  case round =>
    obtain ⟨lo, hi, rfl, rfl, hlh, hhi, HB, HI⟩ := hrel
    by_cases hlt : lo < hi
    · have hmid : (lo + hi) / 2 < l.length := by omega
      have hc := place1_any A l ca x b1 b2 ((lo + hi) / 2) wr (HL.out.bel HB.out) hmid hl (cell_bel H1.out HB.out) (cell_bel H2.out HB.out)
      rw [show (((lo + hi) / 2 : Nat) : Int) = ((lo : Int) + (hi : Int)) / 2 by omega] at hc
      cases hp : ltS l[(lo + hi) / 2].v x <;> rw [hp] at hc
      · have HI2 : RowKit.Hid ((∀ t (h : t < l.length), t < lo → ltS l[t].v x = true) ∧ (∀ t (h : t < l.length), (lo + hi) / 2 ≤ t → ltS l[t].v x = false)) := Lib.hid ⟨HI.out.1, fun t h h2 => by
          cases q : ltS l[t].v x with
          | false => rfl
          | true => have := HM.out ((lo + hi) / 2) t hmid h h2 q; rw [hp] at this; cases this⟩
        clear hp
        go_wp2_with (go_at_call 74; refine hc.mono ?_; rintro e w' ⟨rfl, hg⟩; have HB := Lib.hid (HB.out.trans' hg); clear hg)
        go_roundw
        case rel => exact ⟨lo, (lo + hi) / 2, rfl, by rw [show ((lo : Int) + (hi : Int)) / 2 = (((lo + hi) / 2 : Nat) : Int) by omega], by omega, by omega, HB, HI2⟩
        case measure => simp [intOf]; omega
      · have HI2 : RowKit.Hid ((∀ t (h : t < l.length), t < (lo + hi) / 2 + 1 → ltS l[t].v x = true) ∧ (∀ t (h : t < l.length), hi ≤ t → ltS l[t].v x = false)) := Lib.hid ⟨fun t h h2 => HM.out t ((lo + hi) / 2) h hmid (by omega) hp, HI.out.2⟩
        clear hp
        go_wp2_with (go_at_call 74; refine hc.mono ?_; rintro e w' ⟨rfl, hg⟩; have HB := Lib.hid (HB.out.trans' hg); clear hg)
        go_roundw
        case rel => exact ⟨(lo + hi) / 2 + 1, hi, by rw [show ((lo : Int) + (hi : Int)) / 2 + 1 = (((lo + hi) / 2 + 1 : Nat) : Int) by omega], rfl, by omega, by omega, HB, HI2⟩
        case measure => simp [intOf]; omega
    · obtain rfl : hi = lo := by omega
      have HP : RowKit.Hid (hi = placeN l x) := Lib.hid (place_only hhi (fun i h h2 => HI.out.1 i h h2) (fun i h h2 => HI.out.2 i h h2)).symm
      go_wp2
      go_ret
      exact ⟨ret_int (congrArg Int.ofNat HP.out), HB.out⟩

set_option maxHeartbeats 1000000 in
theorem place_any (A : Option Addr) (l : List BindD) (n ca : Nat) (hn : l.length = n) (x : ByteArray) (w : World) (hL : BL w A ca l) (hl : l.length ≤ 1000000) (hA : Asc l) :
    Calls Try.prog 62 #[.slice A n ca, .string x] w fun e w' => e = .returned (.int .i64 (placeN l x)) ∧ Bel w w' := by
  subst hn
  have g1 := bel_alloc w (.cells #[.slice A l.length ca] 62)
  have g2 := bel_alloc (w.alloc (.cells #[.slice A l.length ca] 62)) (.cells #[.string x] 9)
  have k1 : (w.alloc (.cells #[.slice A l.length ca] 62)).cell? ⟨w.heap.size, 0, none⟩ = some (.slice A l.length ca) := cell_of_block (heap_alloc_new w _) rfl
  have k2 : ((w.alloc (.cells #[.slice A l.length ca] 62)).alloc (.cells #[.string x] 9)).cell? ⟨w.heap.size + 1, 0, none⟩ = some (.string x) := by
    have := cell_of_block (j := 0) (v := .string x) (heap_alloc_new (w.alloc (.cells #[.slice A l.length ca] 62)) (.cells #[.string x] 9)) rfl
    rwa [show (w.alloc (.cells #[.slice A l.length ca] 62)).heap.size = w.heap.size + 1 by simp] at this
  have hS := search_any A l ca x w.heap.size (w.heap.size + 1) _ ((hL.bel g1).bel g2) hl hA (cell_bel k1 g2) k2
  have HG := Lib.hid (g1.trans' g2)
  clear k1 k2 g1 g2 hL hA
  generalize placeN l x = r at hS ⊢
  go_enter Try.func62, Try.ntmps62
  go_wp2_with (go_at_call 73; refine hS.mono ?_; rintro e w' ⟨rfl, hg⟩)
  go_ret
  exact ⟨rfl, HG.out.trans' hg⟩
end Go.Proofs.Ytdmdefdiglpgaaa
