/-
  A list sorted; settled: as it is, or sorted; whether a text is there. Conditions: as each says.
-/
import Derived.Test.YtamghlneoglfnaaOrG
namespace Go.Proofs.Ytamghlneoglfnaa
open Go.RowKit

theorem back_len (l : List AtomD) (d : List EntD) : (backD l d).length = d.length := by simp [backD]
theorem back_get {l : List AtomD} {d : List EntD} {k : Nat} (h : k < d.length) (hp : d[k].2 < l.length) : (backD l d)[k]'(by rw [back_len]; exact h) = l[d[k].2] := by
  simp only [backD, List.getElem_map]
  exact getD_at hp
theorem app_get {d r : List EntD} {k : Nat} (h : k < d.length) (h2 : k < (d ++ r).length) : (d ++ r)[k] = d[k] := List.getElem_append_left h
set_option maxRecDepth 20000 in
set_option maxHeartbeats 8000000 in
theorem Sorted_any (A : Option Addr) (l : List AtomD) (n ca : Nat) (hn : l.length = n) (w : World) (hL : AL w A ca l) (hl : l.length ≤ 100000) (hs : SmA l) :
    Calls Try.prog 10 #[.slice A n ca] w fun e w' => (∃ q c, RowKit.Hid (OA w w' q c (sortedD l)) ∧ e = .returned (.slice q (sortedD l).length c)) ∧ Bel w w' := by
  subst hn
  obtain ⟨i0, hi, hz0, hz1, hz2⟩ := info_A
  have HL := Lib.hid hL
  have hb : Bel w w := Below.refl _ _
  go_enter Try.func10, Try.ntmps10
  go_wp2_with (fail)
  refine (entered_any A l l.length ca rfl w hL hl hs).mono ?_
  rintro e w1 ⟨⟨g, HE, rfl⟩, hg⟩
  replace hb := hb.trans' hg
  clear hg hL
  go_wp2_with (fail)
  refine (sortE_any g (entsD l) l.length (ents_len l) _ HE.out.1 (by rw [ents_len]; exact hl)).mono ?_
  rintro e w2 ⟨rfl, d, HD, HB, hF⟩
  have hdl : d.length = l.length := (HD.out.1.length_eq).trans (ents_len l)
  have hwg := HE.out.2
  replace hb : Bel w w2 := hb.trans (hF.below (B := w.heap.size) (fun j hj => by have := List.mem_singleton.1 hj; omega) hb.size)
  clear hF HE
  go_wp2_with (fail)
  refine (compact_any g d l.length hdl _ HB.out (by omega)).mono ?_
  rintro e w3 ⟨⟨m, HM, rfl⟩, hF⟩
  obtain ⟨rest, hm1, hm2, hm3⟩ := HM.out
  have HG := Lib.hid hm2
  have HM1 := Lib.hid hm1
  have hml : m ≤ l.length := by have := compE_le d; omega
  replace hb : RowKit.Hid (Bel w w3) := Lib.hid (hb.trans (hF.below (B := w.heap.size) (fun j hj => by have := List.mem_singleton.1 hj; omega) hb.size))
  have HS : RowKit.Hid (backD l (compE d) = sortedD l) := Lib.hid (sort_by HD.out.1 HD.out.2)
  have HP : RowKit.Hid (∀ k (h : k < (compE d).length), (compE d)[k].2 < l.length) := Lib.hid (fun k h => by
    obtain ⟨q, _⟩ := ents_mem (HD.out.1.mem_iff.1 (compE_mem (List.getElem_mem h)))
    exact q)
  obtain ⟨s, hs2⟩ : ∃ s, s = backD l (compE d) := ⟨_, rfl⟩
  have HSB := Lib.hid hs2
  have hsl : s.length = m := by rw [hs2, back_len, hm1]
  have HSL := Lib.hid hsl
  clear hF HM hm1 hm2 hm3 HD HB hs hs2 hdl hsl
  go_wp2_with (refine wpList_make_items EA rfl (.tmp 14) (.tmp 14) 29 rfl i0 _ atomZ Try.underlying29 hi hz0 hz1 rfl m rfl rfl (by rw [hz2]; omega) (by unfold maxLen; omega) ?_; intro w4 hB4 hg4; have HB4 := Lib.hid hB4; have HG4 := Lib.hid (HG.out.bel hg4); have hb4 := Lib.hid (hb.out.trans' hg4); have hgl := HG.out.lt; have hwl := hb.out.size; clear hB4 hg4)
  generalize w3.heap.size = h at HB4 hgl hwl ⊢
  clear hb HG
  go_loopw [18] (fun i wr => ∃ k : Nat, k ≤ m ∧ i = .int .i64 k ∧ RowKit.Hid (BlkL encE 54 wr g (compE d ++ rest)) ∧ RowKit.Hid (BlkL encA 27 wr h (s.take k ++ List.replicate (s.length - k) atomZ)) ∧ RowKit.Hid (Bel w wr)) (fun i _ => m - (intOf i).toNat)
  case atStart => exact ⟨0, Nat.zero_le _, rfl, HG4, Lib.hid (by rw [HSL.out]; simpa using HB4.out), hb4⟩
  case round =>
    obtain ⟨k, hk, rfl, HK, HQ, HB⟩ := hrel
    clear HB4 HG4 hb4
    by_cases hlt : k < m
    case neg =>
      obtain rfl : k = m := by omega
      have HE : RowKit.Hid (OA w wr (some ⟨h, 0, none⟩) (sortedD l).length (sortedD l)) := Lib.hid (by
        have h1 := HQ.out
        have h2 := HSL.out
        rw [← h2, Nat.sub_self, List.replicate_zero, List.append_nil, List.take_length, HSB.out, HS.out] at h1
        refine BlkL.own EA h1 HB.out hwl ?_
        have := sorted_lenA l
        unfold maxLen; omega)
      have HN : RowKit.Hid (k = (sortedD l).length) := Lib.hid (by rw [← HS.out, ← HSB.out]; exact HSL.out.symm)
      go_wp2
      go_ret
      exact ⟨⟨_, _, HE, by rw [← HN.out]; rfl⟩, HB.out⟩
    have hkd : k < (compE d).length := by rw [← HM1.out]; exact hlt
    have HEN := Lib.hid (ent_later HK.out (j := k) (by rw [List.length_append]; omega))
    rw [app_get hkd] at HEN
    have HKL : RowKit.Hid (k < (s.take k ++ List.replicate (s.length - k) atomZ).length) := Lib.hid (by rw [part_len _ _ _ (by rw [HSL.out]; exact hk), HSL.out]; exact hlt)
    have hset : ∀ tx p, (compE d)[k] = (tx, p) → ∃ hp : p < l.length, (s.take k ++ List.replicate (s.length - k) atomZ).set k l[p] = s.take (k + 1) ++ List.replicate (s.length - (k + 1)) atomZ := fun tx p hen => by
      have hp := HP.out k hkd
      have hb := back_get (l := l) hkd hp
      simp only [hen] at hp hb
      refine ⟨hp, ?_⟩
      have hsp := set_part s atomZ k (by rw [HSL.out]; exact hlt)
      have hsk : s[k]'(by rw [HSL.out]; exact hlt) = l[p] := by
        simp only [HSB.out]
        exact hb
      rw [hsk] at hsp
      exact hsp
    obtain ⟨tx, p, hen⟩ : ∃ tx p, (compE d)[k] = (tx, p) := ⟨_, _, rfl⟩
    obtain ⟨hp, hse⟩ := hset tx p hen
    have HSET := Lib.hid hse
    rw [hen] at HEN
    clear hen hse hset
    have hg1 := bel_alloc wr (.cells #[.string tx, .int .i64 p] 54)
    obtain ⟨b, o, rfl, hbb, hc⟩ := al_get (HL.out.bel (HB.out.trans' hg1)) (by omega)
    obtain ⟨c0, c1, c2, c3, c4, c5, c6, c7, c8, c9, c10⟩ := hc p hp
    obtain ⟨e0, e1⟩ := HEN.out _ (Below.refl _ _)
    simp only at e0 e1
    have hq : (0 : Int) ≤ k := by omega
    have hq2 : (k : Int) < m := by omega
    have hq3 : (0 : Int) ≤ p := by omega
    have hq4 : (p : Int) < l.length := by omega
    clear hc hbb hkd
    generalize l[p] = x at c0 c1 c2 c3 c4 c5 c6 c7 c8 c9 c10 HSET
    have HG1 := Lib.hid hg1
    clear hg1
    go_wp2_with (refine wpList_store_item EA size_A rfl (.tmp 30) (.tmp 29) rfl h k x rfl rfl (HQ.out.bel HG1.out) HKL.out ?_; intro w5 hB5 hF5; have HB5 := Lib.hid hB5; have HK5 := Lib.hid ((HK.out.bel HG1.out).fr hF5 (by intro hm; have := List.mem_singleton.1 hm; omega)); have HW5 : RowKit.Hid (Bel w w5) := Lib.hid ((HB.out.trans' HG1.out).trans (hF5.below (B := w.heap.size) (fun j hj => by have := List.mem_singleton.1 hj; omega) (HB.out.trans' HG1.out).size)); clear hB5 hF5)
    go_roundw
    case rel => exact ⟨k + 1, by omega, by go_num, HK5, Lib.hid (by rw [← HSET.out]; exact HB5.out), HW5⟩
    case measure => simp [intOf]; omega
set_option maxHeartbeats 2000000 in
theorem settled_any (A : Option Addr) (l : List AtomD) (n ca : Nat) (hn : l.length = n) (w : World) (hL : AL w A ca l) (hl : l.length ≤ 100000) (hs : SmA l) :
    Calls Try.prog 37 #[.slice A n ca] w fun e w' => (∃ q c, RowKit.Hid (AL w' q c (sortedD l)) ∧ e = .returned (.slice q (sortedD l).length c)) ∧ Bel w w' := by
  subst hn
  have HI := Lib.hid (fun W => Is_any A l l.length ca rfl W)
  have HL := Lib.hid hL
  have HS := Lib.hid hs
  clear hL hs
  by_cases hA : AscA l
  · have hI := Lib.hid (HI.out w HL.out hl HS.out)
    rw [isD_yes hA] at hI
    have HE : RowKit.Hid (sortedD l = l) := Lib.hid (sorted_id hA)
    clear hA HI
    rw [HE.out]
    go_enter Try.func37, Try.ntmps37
    go_wp2_with (go_at_call 14; refine hI.out.mono ?_; rintro e w1 ⟨rfl, hg⟩; have HG := Lib.hid hg; clear hg)
    go_ret
    exact ⟨⟨A, ca, Lib.hid (HL.out.bel HG.out), rfl⟩, HG.out⟩
  · have hI := Lib.hid (HI.out w HL.out hl HS.out)
    rw [isD_no hA] at hI
    clear hA HI
    have HSO := Lib.hid (fun W (hg : Bel w W) => Sorted_any A l l.length ca rfl W (HL.out.bel hg) hl HS.out)
    generalize sortedD l = s at HSO ⊢
    go_enter Try.func37, Try.ntmps37
    go_wp2_with (first | (go_at_call 14; refine hI.out.mono ?_; rintro e w1 ⟨rfl, hg⟩; have HG := Lib.hid hg; clear hg) | (go_at_call 10; refine (HSO.out _ HG.out).mono ?_; rintro e w2 ⟨⟨q, c, HO, rfl⟩, hg⟩; have HG2 := Lib.hid (HG.out.trans' hg); clear hg))
    go_ret
    exact ⟨⟨q, c, Lib.hid (OwnL.slice EA HO.out), rfl⟩, HG2.out⟩
end Go.Proofs.Ytamghlneoglfnaa
