/-
  Lists of terms in memory: which of them are valid. Conditions: as each says.
-/
import Derived.Test.YtobelhfhciafcaaDoorTmC
import Derived.Handy
namespace Go.Proofs.YtobelhfhciafcaaDoor
open Go.RowKit

/-- the terms of a slice value -/
def TermsAt (w : World) (A : Option Addr) (l : List TermD) : Prop := ∀ j (h : j < l.length), ∃ b o, A = some ⟨b, o, none⟩ ∧ b < w.heap.size ∧ w.cell? ⟨b, o + j * 2, none⟩ = some (.bool l[j].v) ∧ w.cell? ⟨b, o + j * 2 + 1, none⟩ = some (.string l[j].name)
theorem TermsAt.get {w : World} {A : Option Addr} {l : List TermD} (h : TermsAt w A l) (h0 : 0 < l.length) : ∃ b o, A = some ⟨b, o, none⟩ ∧ b < w.heap.size ∧ ∀ j (h : j < l.length), w.cell? ⟨b, o + j * 2, none⟩ = some (.bool l[j].v) ∧ w.cell? ⟨b, o + j * 2 + 1, none⟩ = some (.string l[j].name) := by
  obtain ⟨b, o, rfl, hb, _⟩ := h 0 h0
  refine ⟨b, o, rfl, hb, fun j hj => ?_⟩
  obtain ⟨b', o', e, _, hc⟩ := h j hj
  injection e with e
  injection e with e1 e2
  subst e1 e2
  exact hc
theorem TermsAt.bel {w w' : World} {A : Option Addr} {l : List TermD} (h : TermsAt w A l) (hg : Bel w w') : TermsAt w' A l := fun j hj => by
  obtain ⟨b, o, e, hb, h1, h2⟩ := h j hj
  exact ⟨b, o, e, Nat.lt_of_lt_of_le hb hg.size, cell_later hg h1, cell_later hg h2⟩
theorem TermsAt.take {w : World} {A : Option Addr} {l : List TermD} (h : TermsAt w A l) (k : Nat) : TermsAt w A (l.take k) := fun j hj => by
  have hj' : j < l.length := by rw [List.length_take] at hj; omega
  obtain ⟨b, o, e, hb, h1, h2⟩ := h j hj'
  exact ⟨b, o, e, hb, by rw [h1]; simp, by rw [h2]; simp⟩
theorem TermsAt.nil (w : World) (A : Option Addr) : TermsAt w A [] := fun j hj => by simp at hj
theorem AtomAt.terms {w : World} {b : Nat} {a : AtomD} (h : AtomAt w b a) : TermsAt w (some ⟨b, 3, none⟩) (argsD a) := fun j hj => by
  obtain ⟨_, _, _, c3, c4, c5, c6, c7, c8, c9, c10⟩ := h.cells
  refine ⟨b, 3, rfl, h.lt, ?_⟩
  match j, hj with
  | 0, _ => exact ⟨c3, c4⟩
  | 1, _ => exact ⟨c5, c6⟩
  | 2, _ => exact ⟨c7, c8⟩
  | 3, _ => exact ⟨c9, c10⟩

set_option maxHeartbeats 1000000 in
theorem valid_any (A : Option Addr) (l : List TermD) (ca : Nat) (w : World) (h : TermsAt w A l) (hl : l.length ≤ 1000000) (hs : ∀ t ∈ l, t.name.size ≤ 9223372036854775807) (hm : MaxAt w) :
    Calls Tryd.prog 32 #[.slice A l.length ca] w fun e w' => e = .returned (.bool (l.all termB)) ∧ Bel w w' := by
  have HT := Lib.hid h
  have HS := Lib.hid hs
  clear h hs
  go_enter Tryd.func32, Tryd.ntmps32
  go_wp2
  go_loopw [7] (fun i wr => ∃ k : Nat, k ≤ l.length ∧ i = .int .i64 k ∧ RowKit.Hid (Bel w wr) ∧ RowKit.Hid ((l.take k).all termB = true)) (fun i _ => l.length - (intOf i).toNat)
  case atStart => exact ⟨0, Nat.zero_le _, rfl, Lib.hid (Below.refl _ _), Lib.hid rfl⟩
  case round =>
    obtain ⟨k, hk, rfl, HB, HA⟩ := hrel
    by_cases hlt : k < l.length
    · obtain ⟨b, o, rfl, hb, hc⟩ := (HT.out.bel HB.out).get (by omega)
      obtain ⟨c1, c2⟩ := hc k hlt
      have hz := HS.out _ (List.getElem_mem hlt)
      have hat : l[k]? = some l[k] := List.getElem?_eq_getElem hlt
      have HN : RowKit.Hid ((l.take (k + 1)).all termB = termB l[k]) := Lib.hid (by rw [List.take_add_one, hat, List.all_append, HA.out]; simp)
      have HF : RowKit.Hid (termB l[k] = false → l.all termB = false) := Lib.hid (fun hf => by
        rw [List.all_eq_false]
        exact ⟨l[k], List.getElem_mem hlt, by simp [hf]⟩)
      clear hat
      generalize l[k] = t at c1 c2 hz HN HF
      obtain ⟨v, s⟩ := t
      simp only at c1 c2 hz
      have hm1 : MaxAt (wr.alloc (.cells #[.bool v, .string s] 24)) := (hm.bel HB.out).bel (bel_alloc _ _)
      have hq : (0 : Int) ≤ k := by omega
      have hq2 : (k : Int) < l.length := by omega
      clear hb hc
      rcases Bool.eq_false_or_eq_true (termB ⟨v, s⟩) with hv | hv
      · go_wp2_with (go_at_call 19; refine (term_any _ _ _ (by exact hz) hm1).mono ?_; rintro e w1 ⟨rfl, hg⟩; have HG := Lib.hid (HB.out.trans' (bel_alloc2 hg)); clear hg)
        go_roundw
        case rel => exact ⟨k + 1, by omega, by go_num, HG, Lib.hid (HN.out.trans hv)⟩
        case measure => simp [intOf]; omega
      · go_wp2_with (go_at_call 19; refine (term_any _ _ _ (by exact hz) hm1).mono ?_; rintro e w1 ⟨rfl, hg⟩; have HG := Lib.hid (HB.out.trans' (bel_alloc2 hg)); clear hg)
        go_ret
        exact ⟨ret_bool (HF.out hv).symm, HG.out⟩
    · obtain rfl : k = l.length := by omega
      have HN : RowKit.Hid (l.all termB = true) := Lib.hid (by have := HA.out; rwa [List.take_length] at this)
      go_wp2
      go_ret
      exact ⟨ret_bool HN.out.symm, HB.out⟩
theorem valid_len (A : Option Addr) (l : List TermD) (k ca : Nat) (hk : l.length = k) (w : World) (h : TermsAt w A l) (hl : l.length ≤ 1000000) (hs : ∀ t ∈ l, t.name.size ≤ 9223372036854775807) (hm : MaxAt w) :
    Calls Tryd.prog 32 #[.slice A k ca] w fun e w' => e = .returned (.bool (l.all termB)) ∧ Bel w w' := by
  subst hk
  exact valid_any A l ca w h hl hs hm
end Go.Proofs.YtobelhfhciafcaaDoor
