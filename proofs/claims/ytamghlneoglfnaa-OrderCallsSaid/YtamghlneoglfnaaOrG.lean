/-
  slices.CompactFunc of entries. Conditions: as each says.
-/
import Derived.Test.YtamghlneoglfnaaOrF
import Derived.Deep.RegionHeld3
namespace Go.Proofs.Ytamghlneoglfnaa
open Go.RowKit

theorem ent_later {w : World} {g : Nat} {d : List EntD} (h : BlkL encE 54 w g d) {j : Nat} (hj : j < d.length) : ∀ W, Bel w W → W.cell? ⟨g, j * 2, none⟩ = some (.string d[j].1) ∧ W.cell? ⟨g, j * 2 + 1, none⟩ = some (.int .i64 d[j].2) := fun W hg => by
  have hb := h.bel hg
  exact ⟨hb.cell EE hj (i := 0) rfl, hb.cell EE hj (i := 1) rfl⟩
theorem comp_short {d : List EntD} (h : d.length < 2) : compE d = d := by
  match d, h with
  | [], _ => rfl
  | [x], _ => rfl
  | _ :: _ :: _, h => simp at h; omega
theorem comp_full {d : List EntD} {j : Nat} (hj : j + 1 < d.length) (h : compE (d.take (j + 1)) = d.take (j + 1)) (e : (d[j + 1].1 == d[j].1) = false) : compE (d.take (j + 2)) = d.take (j + 2) := by
  rw [compE_next hj e, h, List.take_add_one (i := j + 1), List.getElem?_eq_getElem hj]; rfl
/-- what the block holds once the entries ahead of m are looked at -/
def midE (d : List EntD) (m : Nat) : List EntD := compE (d.take m) ++ d.drop (compE (d.take m)).length
theorem compT_le (d : List EntD) (m : Nat) : (compE (d.take m)).length ≤ m := by
  have := compE_le (d.take m)
  rw [List.length_take] at this; omega
theorem mid_len (d : List EntD) (m : Nat) (h : m ≤ d.length) : (midE d m).length = d.length := by
  have := compT_le d m
  unfold midE
  rw [List.length_append, List.length_drop]; omega
theorem mid_start {d : List EntD} {j : Nat} (hj : j + 1 < d.length) (h : compE (d.take (j + 1)) = d.take (j + 1)) (e : (d[j + 1].1 == d[j].1) = true) : midE d (j + 2) = d ∧ (compE (d.take (j + 2))).length = j + 1 := by
  have hl : (d.take (j + 1)).length = j + 1 := by rw [List.length_take]; omega
  unfold midE
  rw [compE_same hj e, h, hl, List.take_append_drop]
  exact ⟨rfl, rfl⟩
theorem mid_get {d : List EntD} {m i : Nat} (h1 : (compE (d.take m)).length ≤ i) (h : i < d.length) (h2 : i < (midE d m).length) : (midE d m)[i] = d[i] := by
  unfold midE at h2 ⊢
  rw [List.getElem_append_right h1, List.getElem_drop]
  congr 1; omega
theorem mid_next {d : List EntD} {m : Nat} (h : m + 1 < d.length) (e : (d[m + 1].1 == d[m].1) = false) : (midE d (m + 1)).set (compE (d.take (m + 1))).length d[m + 1] = midE d (m + 2) ∧ (compE (d.take (m + 2))).length = (compE (d.take (m + 1))).length + 1 := by
  have h1 := compT_le d (m + 1)
  have h3 : (compE (d.take (m + 2))) = compE (d.take (m + 1)) ++ [d[m + 1]] := compE_next h e
  unfold midE
  rw [h3, List.set_append_right _ _ (Nat.le_refl _), Nat.sub_self, List.length_append, List.length_singleton]
  refine ⟨?_, rfl⟩
  have h2 : (compE (d.take (m + 1))).length < d.length := by omega
  rw [List.drop_eq_getElem_cons h2, List.set_cons_zero, List.append_assoc, List.singleton_append]
theorem mid_same {d : List EntD} {m : Nat} (h : m + 1 < d.length) (e : (d[m + 1].1 == d[m].1) = true) : midE d (m + 2) = midE d (m + 1) ∧ (compE (d.take (m + 2))).length = (compE (d.take (m + 1))).length := by
  unfold midE
  rw [compE_same h e]
  exact ⟨rfl, rfl⟩

/-- what the compacted block holds -/
def CompR (d : List EntD) (n m : Nat) (w' : World) (g : Nat) : Prop := ∃ rest, m = (compE d).length ∧ BlkL encE 54 w' g (compE d ++ rest) ∧ (compE d ++ rest).length = n
set_option maxRecDepth 20000 in
set_option maxHeartbeats 8000000 in
theorem compact_any (g : Nat) (d : List EntD) (n : Nat) (hn : d.length = n) (w : World) (hB : BlkL encE 54 w g d) (hl : d.length ≤ 100000) :
    Calls Try.prog 35 #[.slice (some ⟨g, 0, none⟩) n n, .func (.func 36) #[] #[]] w fun e w' => (∃ m, RowKit.Hid (CompR d n m w' g) ∧ e = .returned (.slice (some ⟨g, 0, none⟩) m n)) ∧ Fr [g] w w' := by
  have HB := Lib.hid hB
  clear hB
  by_cases h2 : n < 2
  · have HE : RowKit.Hid (CompR d n n w g) := Lib.hid (by
      unfold CompR; refine ⟨[], ?_⟩; rw [comp_short (by omega), List.append_nil]; exact ⟨hn.symm, HB.out, hn⟩)
    have h3 : (n : Int) < 2 := by omega
    clear hn
    go_enter Try.func35, Try.ntmps35
    go_wp2
    go_ret
    exact ⟨⟨n, HE, rfl⟩, Fr.refl _ _⟩
  have h3 : ¬ (n : Int) < 2 := by omega
  have HN := Lib.hid hn
  have hl2 : n ≤ 100000 := by omega
  clear hn hl
  go_enter Try.func35, Try.ntmps35
  go_wp2
  go_loopw [5] (fun s5 wr => ∃ j : Nat, j + 1 ≤ n ∧ s5 = .int .i64 ((j : Int) + 1) ∧ RowKit.Hid (compE (d.take (j + 1)) = d.take (j + 1)) ∧ RowKit.Hid (Bel w wr)) (fun s5 _ => n - (intOf s5).toNat)
  case atStart => exact ⟨0, by omega, rfl, Lib.hid (by rw [compE_one d (by have := HN.out; omega), List.take_add_one, List.getElem?_eq_getElem (by have := HN.out; omega)]; rfl), Lib.hid (Below.refl _ _)⟩
  case round =>
    obtain ⟨j, hj, rfl, HC, HW⟩ := hrel
    by_cases hlt : j + 1 < n
    case neg =>
      have hjn : ¬ (j : Int) + 1 < n := by omega
      have HE : RowKit.Hid (CompR d n n wr g) := Lib.hid (by
        have h1 := HC.out
        have h4 := HN.out
        rw [List.take_of_length_le (by omega)] at h1
        unfold CompR; refine ⟨[], ?_⟩; rw [h1, List.append_nil]; exact ⟨h4.symm, HB.out.bel HW.out, h4⟩)
      go_wp2
      go_ret
      exact ⟨⟨n, HE, rfl⟩, Fr.of_below HW.out⟩
    have hq : (0 : Int) ≤ j := by omega
    have hq2 : (j : Int) + 1 < n := by omega
    have hq3 : (j : Int) < n := by omega
    have hq4 : (0 : Int) ≤ (j : Int) + 1 := by omega
    have hw : IntKind.i64.wrap (j : Int) = j := IntWalk.i64_in _ (by omega)
    have hw2 : IntKind.i64.wrap ((j : Int) + 1 - 1) = j := (IntWalk.i64_in _ (by omega)).trans (by omega)
    have hjd : j + 1 < d.length := by have := HN.out; omega
    have HI1 := Lib.hid (ent_later (HB.out.bel HW.out) hjd)
    have HI0 := Lib.hid (ent_later (HB.out.bel HW.out) (Nat.lt_of_succ_lt hjd))
    have HF := Lib.hid (fun e => comp_full hjd HC.out e)
    have HM := Lib.hid (fun e => mid_start hjd HC.out e)
    generalize d[j + 1] = x at HI1 HF HM
    generalize d[j] = y at HI0 HF HM
    have HAL := Lib.hid (fun W => alike_any x y W)
    have hd : Bel wr wr.drew := bel_drew' (Below.refl _ _)
    have HD := Lib.hid hd
    clear hd
    cases he : (x.1 == y.1) <;> rw [he] at HAL
    · have HF2 := Lib.hid (HF.out he)
      clear HF HM he
      obtain ⟨c0, c1⟩ := HI1.out _ HD.out
      obtain ⟨d0, d1⟩ := HI0.out _ HD.out
      go_wp2
      go_region_held3 (fun w' => (w'.cell? ⟨g, (j + 1) * 2, none⟩ = some (.string x.1) ∧ w'.cell? ⟨g, (j + 1) * 2 + 1, none⟩ = some (.int .i64 x.2)) ∧ (w'.cell? ⟨g, j * 2, none⟩ = some (.string y.1) ∧ w'.cell? ⟨g, j * 2 + 1, none⟩ = some (.int .i64 y.2))) (first | exact ⟨HI1.out _ HD.out, HI0.out _ HD.out⟩ | go_keep | trivial)
        (first | (go_at_call 36; refine (HAL.out _).mono ?_; rintro e w9 ⟨rfl, hg⟩; replace HD := Lib.hid (HD.out.trans' hg); clear hg))
      all_goals
        go_wp2
        go_roundw
        case rel => exact ⟨j + 1, by omega, by go_num, HF2, Lib.hid (HW.out.trans' HD.out)⟩
        case measure => simp [intOf]; omega
    · have HM1 := Lib.hid (HM.out he).1
      have HM2 := Lib.hid (HM.out he).2
      clear HF HM he
      obtain ⟨c0, c1⟩ := HI1.out _ HD.out
      obtain ⟨d0, d1⟩ := HI0.out _ HD.out
      go_wp2
      go_region_held3 (fun w' => (w'.cell? ⟨g, (j + 1) * 2, none⟩ = some (.string x.1) ∧ w'.cell? ⟨g, (j + 1) * 2 + 1, none⟩ = some (.int .i64 x.2)) ∧ (w'.cell? ⟨g, j * 2, none⟩ = some (.string y.1) ∧ w'.cell? ⟨g, j * 2 + 1, none⟩ = some (.int .i64 y.2))) (first | exact ⟨HI1.out _ HD.out, HI0.out _ HD.out⟩ | go_keep | trivial)
        (first | (go_at_call 36; refine (HAL.out _).mono ?_; rintro e w9 ⟨rfl, hg⟩; replace HD := Lib.hid (HD.out.trans' hg); clear hg))
      all_goals
        clear c0 c1 d0 d1
        have HW2 := Lib.hid (HW.out.trans' HD.out)
        have HS1 : RowKit.Hid (BlkL encE 54 w9 g (midE d (j + 2))) := Lib.hid (by rw [HM1.out]; exact HB.out.bel HW2.out)
        have HS2 : RowKit.Hid (Fr [g] w w9) := Lib.hid (Fr.of_below HW2.out)
        clear HI0 HI1 HAL HD HC HB hjd
        go_wp2
        go_loopw [5, 7] (fun s5 s7 wq => ∃ i kk : Nat, j + i + 2 ≤ n ∧ s7 = .int .i64 ((i : Int) + 1) ∧ s5 = .int .i64 (kk : Int) ∧ kk < j + i + 2 ∧ RowKit.Hid (kk = (compE (d.take (j + i + 2))).length) ∧ RowKit.Hid (BlkL encE 54 wq g (midE d (j + i + 2))) ∧ RowKit.Hid (Fr [g] w wq)) (fun _ s7 _ => n - (intOf s7).toNat)
        case atStart => exact ⟨0, j + 1, by omega, rfl, by go_num, by omega, Lib.hid HM2.out.symm, HS1, HS2⟩
        case round =>
          obtain ⟨i, kk, hi, rfl, rfl, hkk, HKK, HQ, HF⟩ := hrel
          clear HS1 HS2
          by_cases hlt2 : j + i + 2 < n
          case neg =>
            obtain rfl : n = j + i + 2 := by omega
            have hz : ∀ w, (zeroValue 54).run Try.prog w = .ok (.agg #[.string ⟨#[]⟩, .int .i64 0]) w := fun _ => by kernel_rfl
            have hmm : kk + (j + i + 2 - kk) = (midE d (j + i + 2)).length := by rw [mid_len d _ (by have := HN.out; omega)]; have := HN.out; omega
            have HMM := Lib.hid hmm
            have hc1 : ¬ (i : Int) + 1 < ((j + i + 2 - (j + 1) : Nat) : Int) := by omega
            have hc2 : (kk : Int) ≤ ((j + i + 2 : Nat) : Int) := by omega
            have hc3 : (0 : Int) ≤ kk := by omega
            have hc4 : kk ≤ j + i + 2 := by omega
            clear hmm
            go_wp2_with (refine wpList_clear_items EE rfl (.tmp 61) 50 rfl Try.underlying50 _ hz entZ rfl HQ.out (m := kk) (n := j + i + 2 - kk) rfl HMM.out (by omega) ?_; intro w5 hB5 hF5; have HB5 := Lib.hid hB5; have HF5 := Lib.hid (HF.out.trans hF5); clear hB5 hF5)
            go_ret
            refine ⟨⟨kk, Lib.hid ?_, rfl⟩, HF5.out⟩
            have h4 := HN.out
            have h5 := HKK.out
            have h6 := HB5.out
            have h7 := HMM.out
            unfold CompR
            refine ⟨List.replicate (j + i + 2 - kk) entZ, ?_⟩
            unfold midE at h6
            rw [List.take_append_of_le_length (by omega), List.take_of_length_le (by omega : (compE (d.take (j + i + 2))).length ≤ kk)] at h6
            rw [List.take_of_length_le (by omega : d.length ≤ j + i + 2)] at h5 h6
            refine ⟨h5, h6, ?_⟩
            rw [List.length_append, List.length_replicate]; omega
          have hmd : j + i + 2 < d.length := by have := HN.out; omega
          have hml : (midE d (j + i + 2)).length = d.length := mid_len d _ (by omega)
          have HI1 := Lib.hid (ent_later HQ.out (j := j + i + 2) (by omega))
          have HI0 := Lib.hid (ent_later HQ.out (j := j + i + 1) (by omega))
          rw [mid_get (by rw [← HKK.out]; omega) (by omega)] at HI1 HI0
          have HX1 := Lib.hid (fun e => mid_next (m := j + i + 1) hmd e)
          have HX2 := Lib.hid (fun e => mid_same (m := j + i + 1) hmd e)
          rw [show (j + i + 2) * 2 = (j + 1) * 2 + (i + 1) * 2 by omega] at HI1
          rw [show (j + i + 1) * 2 = (j + 1) * 2 + i * 2 by omega] at HI0
          simp only [show j + i + 1 + 1 = j + i + 2 by omega] at HX1 HX2
          generalize d[j + i + 2] = x2 at HI1 HX1 HX2
          generalize d[j + i + 1] = y2 at HI0 HX1 HX2
          have HAL := Lib.hid (fun W => alike_any x2 y2 W)
          have HD := Lib.hid (bel_drew' (Below.refl _ _) : Bel wr wr.drew)
          have hq5 : (0 : Int) ≤ i := by omega
          have hq6 : (0 : Int) ≤ (i : Int) + 1 := by omega
          have hq7 : (i : Int) + 1 < ((n - (j + 1) : Nat) : Int) := by omega
          have hq8 : (i : Int) < ((n - (j + 1) : Nat) : Int) := by omega
          have hw3 : IntKind.i64.wrap (i : Int) = i := IntWalk.i64_in _ (by omega)
          have hw4 : IntKind.i64.wrap ((i : Int) + 1 - 1) = i := (IntWalk.i64_in _ (by omega)).trans (by omega)
          have hk1 : (0 : Int) ≤ kk := by omega
          have hk2 : (kk : Int) < n := by omega
          have HKL : RowKit.Hid (kk < (midE d (j + i + 2)).length) := Lib.hid (by rw [hml]; omega)
          clear hml hmd
          obtain ⟨c0, c1⟩ := HI1.out _ HD.out
          obtain ⟨d0, d1⟩ := HI0.out _ HD.out
          cases he : (x2.1 == y2.1) <;> rw [he] at HAL
          · have HN1 := Lib.hid (HX1.out he).1
            have HN2 := Lib.hid (HX1.out he).2
            clear HX1 HX2 he
            go_wp2
            go_region_held3 (fun w' => (w'.cell? ⟨g, (j + 1) * 2 + (i + 1) * 2, none⟩ = some (.string x2.1) ∧ w'.cell? ⟨g, (j + 1) * 2 + (i + 1) * 2 + 1, none⟩ = some (.int .i64 x2.2)) ∧ (w'.cell? ⟨g, (j + 1) * 2 + i * 2, none⟩ = some (.string y2.1) ∧ w'.cell? ⟨g, (j + 1) * 2 + i * 2 + 1, none⟩ = some (.int .i64 y2.2))) (first | exact ⟨HI1.out _ HD.out, HI0.out _ HD.out⟩ | go_keep | trivial)
              (first | (go_at_call 36; refine (HAL.out _).mono ?_; rintro e w9 ⟨rfl, hg⟩; replace HD := Lib.hid (HD.out.trans' hg); clear hg))
            all_goals
              clear c0 c1 d0 d1
              obtain ⟨c0, c1⟩ := HI1.out _ HD.out
              go_wp2_with (refine wpList_store_item EE size_E rfl (.tmp 56) (.tmp 55) rfl g kk x2 rfl rfl (HQ.out.bel HD.out) HKL.out ?_; intro w5 hB5 hF5; have HB5 := Lib.hid hB5; have HF5 := Lib.hid ((HF.out.trans (Fr.of_below HD.out)).trans hF5); clear hB5 hF5)
              go_roundw
              case rel => exact ⟨i + 1, kk + 1, by omega, by go_num, by go_num, by omega, Lib.hid (by rw [HKK.out]; exact HN2.out.symm), Lib.hid (by have := HB5.out; rw [HKK.out, HN1.out] at this; exact this), HF5⟩
              case measure => simp [intOf]; omega
          · have HN1 := Lib.hid (HX2.out he).1
            have HN2 := Lib.hid (HX2.out he).2
            clear HX1 HX2 he
            go_wp2
            go_region_held3 (fun w' => (w'.cell? ⟨g, (j + 1) * 2 + (i + 1) * 2, none⟩ = some (.string x2.1) ∧ w'.cell? ⟨g, (j + 1) * 2 + (i + 1) * 2 + 1, none⟩ = some (.int .i64 x2.2)) ∧ (w'.cell? ⟨g, (j + 1) * 2 + i * 2, none⟩ = some (.string y2.1) ∧ w'.cell? ⟨g, (j + 1) * 2 + i * 2 + 1, none⟩ = some (.int .i64 y2.2))) (first | exact ⟨HI1.out _ HD.out, HI0.out _ HD.out⟩ | go_keep | trivial)
              (first | (go_at_call 36; refine (HAL.out _).mono ?_; rintro e w9 ⟨rfl, hg⟩; replace HD := Lib.hid (HD.out.trans' hg); clear hg))
            all_goals
              clear c0 c1 d0 d1
              go_wp2
              go_roundw
              case rel => exact ⟨i + 1, kk, by omega, by go_num, rfl, by omega, Lib.hid (by rw [HKK.out]; exact HN2.out.symm), Lib.hid (by rw [show j + (i + 1) + 2 = j + i + 1 + 2 by omega, HN1.out]; exact HQ.out.bel HD.out), Lib.hid (HF.out.trans (Fr.of_below HD.out))⟩
              case measure => simp [intOf]; omega
end Go.Proofs.Ytamghlneoglfnaa
