/-
  Two lists of bindings joined. Conditions: as each says.
-/
import Derived.Test.YtdmdefdiglpgaaaSbL
namespace Go.Proofs.Ytdmdefdiglpgaaa
open Go.RowKit

theorem BindAt.lt {w : World} {b : Nat} {x : BindD} (h : BindAt w b x) : b < w.heap.size := (Array.getElem?_eq_some_iff.1 h).1
theorem BindAt.fr {F : List Nat} {w w' : World} {b : Nat} {x : BindD} (h : BindAt w b x) (hf : Fr F w w') (hn : b ∉ F) : BindAt w' b x := hf.at hn h
theorem BindAt.slice {w : World} {b : Nat} {x : BindD} (h : BindAt w b x) : BL w (some ⟨b, 0, none⟩) 1 [x] := by
  refine ⟨ItemsAt.of_load EB h.lt (fun j v hj => ?_), by simp, (fun e => by cases e), fun a e _ => ⟨_, _, (by injection e with e; exact e.symm)⟩⟩
  rw [flat_one] at hj
  rw [Nat.zero_add]
  exact cell_of_block h (by rw [← Array.getElem?_toList]; exact hj)
theorem own_not {q : Option Addr} {n c b : Nat} (h : ∀ g, (Value.slice q n c).ownBlock = some g → g < b ∨ b < g) : b ∉ (Value.slice q n c).ownBlock.toList := fun hm => by
  have := h b (by simpa using hm)
  omega
theorem joinB_cons (l : List BindD) (b : BindD) (m : List BindD) : joinB l (b :: m) = l.take (placeN l b.v) ++ b :: joinB (l.drop (placeN l b.v)) m := rfl
set_option maxRecDepth 20000 in
set_option maxHeartbeats 8000000 in
theorem joined_any (A : Option Addr) (l : List BindD) (n ca : Nat) (hn : l.length = n) (B : Option Addr) (m : List BindD) (nb cb : Nat) (hnb : m.length = nb) (w : World) (hL : BL w A ca l) (hl : l.length ≤ 1000000) (hM : BL w B cb m) (hm : m.length ≤ 1000000) (hA : Asc l) :
    Calls Try.prog 47 #[.slice A n ca, .slice B nb cb] w fun e w' => (∃ q c out, RowKit.Hid (out = joinB l m) ∧ RowKit.Hid (OB w w' q c out) ∧ e = .returned (.slice q out.length c)) ∧ Bel w w' := by
  subst hn hnb
  have H0 := Lib.hid (And.intro hL hA)
  have HM := Lib.hid hM
  clear hL hM hA
  go_enter Try.func47, Try.ntmps47
  go_wp2
  go_loopw [0, 5, 11] (fun a0 a5 i wr => ∃ (k : Nat) (l' : List BindD) (A' : Option Addr) (ca' : Nat) (out : List BindD) (q : Option Addr) (c : Nat), k ≤ m.length ∧ i = .int .i64 k ∧ a0 = .slice A' l'.length ca' ∧ a5 = .slice q out.length c ∧
    out.length + l'.length ≤ l.length + k ∧ l'.length ≤ l.length ∧ RowKit.Hid (BL w A' ca' l' ∧ Asc l' ∧ OB w wr q c out ∧ out ++ joinB l' (m.drop k) = joinB l m)) (fun _ _ i _ => m.length - (intOf i).toNat)
  case atStart => exact ⟨0, l, A, ca, [], none, 0, Nat.zero_le _, rfl, rfl, rfl, by simp, Nat.le_refl _, Lib.hid ⟨H0.out.1, H0.out.2, OB.nil _ (Below.refl _ _), rfl⟩⟩
  case round =>
    obtain ⟨k, l', A', ca', out, q, c, hk, rfl, rfl, rfl, hsum, hll, H⟩ := hrel
    clear H0
    have HL := Lib.hid H.out.1
    have HA := Lib.hid H.out.2.1
    have HO := Lib.hid H.out.2.2.1
    have HE := Lib.hid H.out.2.2.2
    clear H
    by_cases hlt : k < m.length
    · obtain ⟨b, o, rfl, hbb, hc⟩ := bl_get (HM.out.bel HO.out.bel) (by omega)
      obtain ⟨c1, c2, c3⟩ := hc k hlt
      have hq : (0 : Int) ≤ k := by omega
      have hq2 : (k : Int) < m.length := by omega
      have HS : RowKit.Hid (m.drop k = m[k] :: m.drop (k + 1)) := Lib.hid (List.drop_eq_getElem_cons hlt)
      clear hc hbb
      generalize m[k] = x at c1 c2 c3 HS
      have hX := BindAt.new wr x
      have HO1 := Lib.hid (HO.out.bel' (bel_alloc wr (.cells #[.string x.v, .bool x.t.v, .string x.t.name] 32)))
      have hP := Lib.hid (place_any A' l' l'.length ca' rfl x.v _ (HL.out.bel HO1.out.bel) (by omega) HA.out)
      have hi := placeN_le l' x.v
      have HJ := Lib.hid (joinB_cons l' x (m.drop (k + 1)))
      generalize placeN l' x.v = i at hP hi HJ
      have hle := HL.out.le
      have HT : RowKit.Hid ((l'.take i).length = i) := Lib.hid (by rw [List.length_take]; omega)
      have hi1 : (0 : Int) ≤ i := by omega
      have hi2 : (i : Int) ≤ l'.length := by omega
      have hi3 : (i : Int) ≤ ca' := by omega
      have hqo : RowKit.Hid (∀ g, (Value.slice q out.length c).ownBlock = some g → g < wr.heap.size) := Lib.hid (fun g hg => row_lt HO.out.row hg)
      have hcase := slice_cases HL.out i hi
      have HTK := Lib.hid (HL.out.take i)
      obtain ⟨xv, tv, ts⟩ := x
      simp only at c1 c2 c3 hX HO1 hP
      have HN : RowKit.Hid ((out ++ l'.take i ++ [⟨xv, tv, ts⟩]) ++ joinB (l'.drop i) (m.drop (k + 1)) = joinB l m) := Lib.hid (by rw [← HE.out, HS.out, HJ.out]; simp)
      have HAD : RowKit.Hid (Asc (l'.drop i)) := Lib.hid (asc_sub HA.out (List.drop_sublist _ _))
      go_wp2_with (go_at_call 62; refine hP.out.mono ?_; rintro e w1 ⟨rfl, hg⟩; have hX := hX.bel hg; have HO2 := Lib.hid (HO1.out.bel' hg); clear hg)
      rcases hcase with ⟨rfl, rfl, rfl⟩ | ⟨b', o', rfl, rfl, hll2⟩ | ⟨b', o', rfl, hlt3⟩
      case' inl =>
        have HTD : RowKit.Hid ((([] : List BindD).drop 0).length = 0) := Lib.hid rfl
        have HD : RowKit.Hid (BL w A' 0 (([] : List BindD).drop 0)) := Lib.hid (SliceAt.zero w A')
      case' inr.inl =>
        have HTD : RowKit.Hid ((l'.drop ca').length = 0) := Lib.hid (by rw [List.length_drop]; omega)
        have HD : RowKit.Hid (BL w (some ⟨b', o', none⟩) 0 (l'.drop ca')) := Lib.hid (by rw [List.drop_of_length_le (by omega)]; exact HL.out.empty)
      case' inr.inr =>
        have HTD : RowKit.Hid ((l'.drop i).length = l'.length - i) := Lib.hid (by rw [List.length_drop])
        have HD := Lib.hid (HL.out.dropCap i)
        have hne : ¬ ca' = i := by omega
      all_goals
        have HX0 := Lib.hid hX
        have HOd : RowKit.Hid (OB w w1.drew q c out) := Lib.hid (HO2.out.bel' (bel_drew' (Below.refl _ _)))
        have HOa : RowKit.Hid (OB w (w1.alloc (.cells #[.string xv, .bool tv, .string ts] 32)).drew q c out) := Lib.hid ((HO2.out.bel' (bel_alloc _ _)).bel' (bel_drew' (Below.refl _ _)))
        have HNa : RowKit.Hid (BindAt (w1.alloc (.cells #[.string xv, .bool tv, .string ts] 32)).drew w1.heap.size ⟨xv, tv, ts⟩) := Lib.hid (BindAt.new w1 ⟨xv, tv, ts⟩)
        have HXa : RowKit.Hid (BindAt (w1.alloc (.cells #[.string xv, .bool tv, .string ts] 32)).drew wr.heap.size ⟨xv, tv, ts⟩) := Lib.hid (hX.bel (bel_drew' (bel_alloc _ _)))
        have HXd : RowKit.Hid (BindAt w1.drew wr.heap.size ⟨xv, tv, ts⟩) := Lib.hid hX
        have hlt1 : RowKit.Hid (wr.heap.size < w1.heap.size) := Lib.hid hX.lt
        have hnq : RowKit.Hid (wr.heap.size ∉ (Value.slice q out.length c).ownBlock.toList) := Lib.hid (own_not (fun g hg => .inl (hqo.out g hg)))
        have hnq2 : RowKit.Hid (w1.heap.size ∉ (Value.slice q out.length c).ownBlock.toList) := Lib.hid (own_not (fun g hg => .inl (Nat.lt_trans (hqo.out g hg) hlt1.out)))
        obtain ⟨x1, x2, x3⟩ := hX.cells
        simp only at x1 x2 x3
        go_region_held3 (fun w' => w'.cell? ⟨wr.heap.size, 0, none⟩ = some (.string xv) ∧ w'.cell? ⟨wr.heap.size, 1, none⟩ = some (.bool tv) ∧ w'.cell? ⟨wr.heap.size, 2, none⟩ = some (.string ts)) (first | go_keep | trivial)
          (first | ((refine step_pushes (by rfl) (.tmp 19) (.tmp 22) 62 Try.underlying62 (by rfl) (by rfl) (by rfl) HOd.out (HTK.out.bel HOd.out.bel) HT.out (by omega) ?_; intro q1 k1 w2 out1 HX1 HO3 hf1 hn1; have HX3 := Lib.hid (HXd.out.fr hf1 hnq.out); have z1 : w2.cell? ⟨wr.heap.size, 0, none⟩ = some (.string xv) := HX3.out.cells.1; have z2 : w2.cell? ⟨wr.heap.size, 1, none⟩ = some (.bool tv) := HX3.out.cells.2.1; have z3 : w2.cell? ⟨wr.heap.size, 2, none⟩ = some (.string ts) := HX3.out.cells.2.2; have hol := Nat.le_of_eq (show out1.length = out.length + _ from (by rw [HX1.out, List.length_append, HT.out])); have hnq3 : RowKit.Hid (wr.heap.size ∉ (Value.slice q1 out1.length k1).ownBlock.toList) := Lib.hid (own_not (fun g hg => (hn1 g hg).elim (fun h => .inl (hqo.out g h)) (fun h => .inr (Nat.lt_of_lt_of_le hlt1.out h)))))) | ((refine step_pushes (by rfl) (.tmp 19) (.tmp 22) 62 Try.underlying62 (by rfl) (by rfl) (by rfl) HOa.out (HTK.out.bel HOa.out.bel) HT.out (by omega) ?_; intro q1 k1 w2 out1 HX1 HO3 hf1 hn1; have HX3 := Lib.hid (HXa.out.fr hf1 hnq.out); have HN3 := Lib.hid (HNa.out.fr hf1 hnq2.out); have z1 : w2.cell? ⟨wr.heap.size, 0, none⟩ = some (.string xv) := HX3.out.cells.1; have z2 : w2.cell? ⟨wr.heap.size, 1, none⟩ = some (.bool tv) := HX3.out.cells.2.1; have z3 : w2.cell? ⟨wr.heap.size, 2, none⟩ = some (.string ts) := HX3.out.cells.2.2; have hol := Nat.le_of_eq (show out1.length = out.length + _ from (by rw [HX1.out, List.length_append, HT.out])); have hnq3 : RowKit.Hid (wr.heap.size ∉ (Value.slice q1 out1.length k1).ownBlock.toList) := Lib.hid (own_not (fun g hg => (hn1 g hg).elim (fun h => .inl (hqo.out g h)) (fun h => .inr (by have := h; simp at this; have := hlt1.out; omega)))))) | ((refine step_pushes (by rfl) (.tmp 23) (.tmp 25) 62 Try.underlying62 (by rfl) (by rfl) (by rfl) HO3.out HN3.out.slice (show List.length [_] = 1 from rfl) (by omega) ?_; intro q2 k2 w3 out2 HX2 HO4 hf2 _; have HX4 := Lib.hid (HX3.out.fr hf2 hnq3.out); have u1 : w3.cell? ⟨wr.heap.size, 0, none⟩ = some (.string xv) := HX4.out.cells.1; have u2 : w3.cell? ⟨wr.heap.size, 1, none⟩ = some (.bool tv) := HX4.out.cells.2.1; have u3 : w3.cell? ⟨wr.heap.size, 2, none⟩ = some (.string ts) := HX4.out.cells.2.2)) | ((refine step_pushes (by rfl) (.tmp 23) (.tmp 25) 62 Try.underlying62 (by rfl) (by rfl) (by rfl) (HO3.out.bel' (bel_alloc _ _)) ((BindAt.new w2 ⟨xv, tv, ts⟩).slice) (show List.length [_] = 1 from rfl) (by omega) ?_; intro q2 k2 w3 out2 HX2 HO4 hf2 _; have HX4 := Lib.hid ((HX3.out.bel (bel_alloc _ _)).fr hf2 hnq3.out); have u1 : w3.cell? ⟨wr.heap.size, 0, none⟩ = some (.string xv) := HX4.out.cells.1; have u2 : w3.cell? ⟨wr.heap.size, 1, none⟩ = some (.bool tv) := HX4.out.cells.2.1; have u3 : w3.cell? ⟨wr.heap.size, 2, none⟩ = some (.string ts) := HX4.out.cells.2.2)))
        all_goals have hol2 := Nat.le_of_eq (show out2.length = out1.length + 1 from (by rw [HX2.out, List.length_append, List.length_singleton]))
        all_goals go_wp2
        all_goals go_roundw
        all_goals first
          | (case rel => exact ⟨k + 1, _, _, _, out2, q2, k2, by omega, by go_num, (by rw [HTD.out]), rfl, (by rw [HTD.out]; omega), (by rw [HTD.out]; omega), Lib.hid ⟨HD.out, HAD.out, HO4.out, (by rw [HX2.out, HX1.out]; exact HN.out)⟩⟩)
          | (simp [intOf]; omega)
    · obtain rfl : k = m.length := by omega
      have HN : RowKit.Hid (joinB l m = out ++ l') := Lib.hid (by have := HE.out; rw [List.drop_length] at this; exact this.symm)
      go_wp2_with (at_builtin; refine wpList_pushes rfl (.tmp 31) (.tmp 32) 62 Try.underlying62 rfl rfl rfl HO.out (HL.out.bel HO.out.bel) rfl (by omega) ?_; intro q' c' w5 out' HX HO5)
      go_ret
      exact ⟨⟨q', c', out', Lib.hid (HX.out.trans HN.out.symm), HO5, rfl⟩, HO5.out.bel⟩
end Go.Proofs.Ytdmdefdiglpgaaa
