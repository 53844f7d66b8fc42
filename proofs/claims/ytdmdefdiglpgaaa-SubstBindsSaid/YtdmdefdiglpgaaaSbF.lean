/-
  What a variable is bound to in any list; a term under bindings. Conditions: as each says.
-/
import Derived.Test.YtdmdefdiglpgaaaSbC
namespace Go.Proofs.Ytdmdefdiglpgaaa
open Go.RowKit

def lenV : Value → Nat
  | .slice _ n _ => n
  | _ => 0
theorem getR_take {l : List BindD} {n : Nat} {v : ByteArray} {t : TermD} (h : getR (l.take n) v = (t, true)) : getR l v = (t, true) := by
  unfold getR at h
  cases e : getB (l.take n) v with
  | none => rw [e] at h; cases h
  | some u =>
    rw [e] at h
    injection h with h _
    subst h
    refine getR_some ?_
    rw [← List.take_append_drop n l, getB_append, e]
    rfl
theorem getR_drop {l : List BindD} {n : Nat} {v : ByteArray} {t : TermD} (h : getR (l.take n) v = (t, false)) : getR (l.drop n) v = getR l v := by
  unfold getR at h
  cases e : getB (l.take n) v with
  | some u => rw [e] at h; cases h
  | none =>
    have : getB l v = getB (l.drop n) v := by
      conv => lhs; rw [← List.take_append_drop n l]
      rw [getB_append, e]
      rfl
    unfold getR
    rw [this]
theorem getR_nil (v : ByteArray) : getR [] v = (zeroT, false) := rfl
theorem SliceAt.dropCap {α : Type} {enc : α → List Value} {k : Nat} {w : World} {b o ca : Nat} {l : List α} (h : SliceAt enc k w (some ⟨b, o, none⟩) ca l) (m : Nat) : SliceAt enc k w (some ⟨b, o + m * k, none⟩) (ca - m) (l.drop m) :=
  ⟨h.items.drop m, by have := h.le; rw [List.length_drop]; omega, (fun e => by cases e), fun a e _ => ⟨_, _, (by injection e with e; exact e.symm)⟩⟩
theorem SliceAt.empty {α : Type} {enc : α → List Value} {k : Nat} {w : World} {b o ca ca' : Nat} {l : List α} (_h : SliceAt enc k w (some ⟨b, o, none⟩) ca l) : SliceAt enc k w (some ⟨b, o, none⟩) ca' ([] : List α) :=
  ⟨ItemsAt.nil _ _, by simp, (fun e => by cases e), fun a e _ => ⟨_, _, (by injection e with e; exact e.symm)⟩⟩

set_option maxHeartbeats 4000000 in
theorem Get_any (A : Option Addr) (l : List BindD) (n ca : Nat) (hn : l.length = n) (v : ByteArray) (w : World) (hL : BL w A ca l) (hl : l.length ≤ 1000000) :
    Calls Try.prog 15 #[.slice A n ca, .string v] w fun e w' => (∃ t is, RowKit.Hid ((t, is) = getR l v) ∧ e = .returned (.tuple #[.agg #[.bool t.v, .string t.name], .bool is])) ∧ Bel w w' := by
  subst hn
  have hZ := TermAt.new w zeroT
  have hb := bel_alloc w (.cells #[.bool zeroT.v, .string zeroT.name] 29)
  simp only [zeroT] at hb
  have H0 := Lib.hid (And.intro (hL.bel hb) (And.intro hl (And.intro hZ hb)))
  clear hL hZ hb hl
  go_enter Try.func15, Try.ntmps15
  go_wp2
  go_loopw [0] (fun a0 wr => ∃ (l' : List BindD) (A' : Option Addr) (ca' : Nat), a0 = .slice A' l'.length ca' ∧ RowKit.Hid (BL wr A' ca' l' ∧ l'.length ≤ 1000000 ∧ getR l' v = getR l v ∧ TermAt wr w.heap.size zeroT ∧ Bel w wr)) (fun a0 _ => lenV a0)
  case atStart => exact ⟨l, A, ca, rfl, Lib.hid ⟨H0.out.1, H0.out.2.1, rfl, H0.out.2.2.1, H0.out.2.2.2⟩⟩
  case round =>
    obtain ⟨l', A', ca', rfl, H⟩ := hrel
    clear H0
    have HG := Lib.hid H.out.2.2.1
    have hl := H.out.2.1
    have HL := Lib.hid H.out.1
    have hZ := H.out.2.2.2.1
    have hb := H.out.2.2.2.2
    clear H
    by_cases h0 : 0 < l'.length
    · obtain ⟨b, o, rfl⟩ := HL.out.pos h0
      have h00 : (0 : Int) < l'.length := by omega
      have hle := HL.out.le
      go_wp2_with (first | (go_at_call 49; refine (run_any _ l' ca' _ HL.out hl).mono ?_; rintro e w1 ⟨⟨n, HN, rfl⟩, hg⟩; have HL := Lib.hid (HL.out.bel hg); have hZ := hZ.bel hg; have hb := hb.trans' hg; clear hg; have hn1 := HN.out.1; have hn2 := HN.out.2.1 h0; have hn3 : (n : Int) ≤ ca' := (by omega); have hn4 : (n : Int) ≤ l'.length := (by omega); have hn5 : (0 : Int) ≤ n := (by omega)))
      refine (get_any _ (l'.take n) n ca' (by rw [List.length_take]; omega) v _ (HL.out.take n) (by rw [List.length_take]; omega) HN.out.2.2.1).mono ?_
      rintro e w2 ⟨⟨t, is, HR, rfl⟩, hg⟩
      have HL := Lib.hid (HL.out.bel hg)
      have hT0 := TermAt.new w2 t
      have hg2 := hg.trans' (bel_alloc w2 (.cells #[.bool t.v, .string t.name] 29))
      have hZ := hZ.bel hg2
      have hb := hb.trans' hg2
      cases is
      · have HD := Lib.hid ((getR_drop HR.out.symm).trans HG.out)
        by_cases hcc : ca' = n
        · have hcl : l'.length = n := by omega
          have hcl2 : ((l'.length : Nat) : Int) - n = 0 := by omega
          have HX : RowKit.Hid (getR ([] : List BindD) v = getR l v) := Lib.hid (by
            have := HD.out
            rwa [List.drop_of_length_le (by omega)] at this)
          have HE := Lib.hid ((HL.out.empty (ca' := 0)).bel (bel_alloc w2 (.cells #[.bool t.v, .string t.name] 29)))
          go_wp2
          go_roundw
          case rel => exact ⟨[], _, 0, rfl, Lib.hid ⟨HE.out, by simp, HX.out, hZ, hb⟩⟩
          case measure => simp [lenV]; omega
        · have hcl : n < ca' := by omega
          have HE := Lib.hid ((HL.out.dropCap n).bel (bel_alloc w2 (.cells #[.bool t.v, .string t.name] 29)))
          have HLE : RowKit.Hid ((l'.drop n).length = l'.length - n) := Lib.hid (by rw [List.length_drop])
          go_wp2
          go_roundw
          case rel => exact ⟨l'.drop n, _, ca' - n, by rw [HLE.out], Lib.hid ⟨HE.out, by rw [HLE.out]; omega, HD.out, hZ, hb⟩⟩
          case measure => simp [lenV]; omega
      · have HX := Lib.hid ((getR_take HR.out.symm).symm.trans HG.out)
        obtain ⟨d0, d1⟩ := hT0.cells
        go_wp2_with ((with_reducible refine wpList_store_term ?_ (.tmp 4) (.tmp 23) ?_ w.heap.size t ?_ ?_ hZ ?_); rfl; rfl; rfl; rfl; intro w3 hR hb3 _; have hb := hb.trans hb3; clear hb3)
        try simp only [Exit.inBlock, Exit.then]
        refine bodyPost_ret (results_term2 rfl _ _ _ _ rfl hR) rfl ?_
        exact ⟨⟨_, _, Lib.hid ((getR_take HR.out.symm).symm.trans HG.out), rfl⟩, hb⟩
    · have hl0 : l' = [] := List.eq_nil_of_length_eq_zero (by omega)
      subst hl0
      go_wp2_with ((with_reducible refine wpList_store_term ?_ (.tmp 4) (.tmp 27) ?_ w.heap.size zeroT ?_ ?_ hZ ?_); rfl; rfl; rfl; rfl; intro w3 hR hb3 _; have hb := hb.trans hb3; clear hb3)
      try simp only [Exit.inBlock, Exit.then]
      refine bodyPost_ret (results_term2 rfl _ _ _ _ rfl hR) rfl ?_
      exact ⟨⟨_, _, Lib.hid HG.out, rfl⟩, hb⟩
end Go.Proofs.Ytdmdefdiglpgaaa
