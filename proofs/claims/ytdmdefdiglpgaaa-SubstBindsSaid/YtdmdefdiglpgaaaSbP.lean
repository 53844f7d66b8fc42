/-
  Composing bindings. Conditions: as each says.
-/
import Derived.Test.YtdmdefdiglpgaaaSbN
import Derived.Handy
namespace Go.Proofs.Ytdmdefdiglpgaaa
open Go.RowKit

theorem und_asc {l : List BindD} (h : Asc l) (m : List BindD) : Asc (undB l m) := by
  unfold undB
  refine asc_sub ?_ (List.filter_sublist ..)
  unfold Asc at h ⊢
  rw [List.pairwise_map]
  exact h
theorem unb_asc {l : List BindD} (h : Asc l) (m : List BindD) : Asc (unbB l m) := asc_sub h (List.filter_sublist ..)
theorem joinB_len : ∀ (m l : List BindD), (joinB l m).length = l.length + m.length
  | [], l => rfl
  | b :: m, l => by
    have := placeN_le l b.v
    rw [joinB_cons, List.length_append, List.length_cons, joinB_len m, List.length_take, List.length_drop, List.length_cons]
    omega
theorem compL_len (a b : List BindD) : (compL a b).length ≤ a.length + b.length := by
  unfold compL
  rw [joinB_len]
  have := und_len a b
  have := unb_len b a
  omega
theorem comp_bad1 {a b : List BindD} (h : checkB a = false) : compD a b = ([], 15) := by unfold compD; rw [if_pos (.inl h)]
theorem comp_bad2 {a b : List BindD} (h : checkB b = false) : compD a b = ([], 15) := by unfold compD; rw [if_pos (.inr h)]
theorem comp_bad3 {a b : List BindD} (h1 : checkB a = true) (h2 : checkB b = true) (h : checkB (compL a b) = false) : compD a b = ([], 15) := by unfold compD; rw [if_neg (by simp [h1, h2]), if_neg (by simp [h])]
theorem comp_ok {a b : List BindD} (h1 : checkB a = true) (h2 : checkB b = true) (h : checkB (compL a b) = true) : compD a b = (compL a b, 0) := by unfold compD; rw [if_neg (by simp [h1, h2]), if_pos h]

set_option maxHeartbeats 1000000 in
theorem Or_any (b : Nat) (e1 e2 : Int) (w : World) (h1 : w.cell? ⟨b, 0, none⟩ = some (.int .i64 e1)) (h2 : w.cell? ⟨b, 1, none⟩ = some (.int .i64 e2)) (k1 : e1 = 0 ∨ e1 = 15) (k2 : e2 = 0 ∨ e2 = 15) :
    Calls Try.prog 46 #[.slice (some ⟨b, 0, none⟩) 2 2] w fun e w' => e = .returned (.int .i64 (if e1 = 0 then e2 else e1)) ∧ Bel w w' := by
  rcases k1 with rfl | rfl <;> rcases k2 with rfl | rfl
  all_goals
    go_enter Try.func46, Try.ntmps46
    go_wp2
    go_rounds 3
    all_goals go_ret
    all_goals exact ⟨rfl, Below.refl _ _⟩

theorem Or_zero (b : Nat) (w : World) (h1 : w.cell? ⟨b, 0, none⟩ = some (.int .i64 0)) (h2 : w.cell? ⟨b, 1, none⟩ = some (.int .i64 0)) :
    Calls Try.prog 46 #[.slice (some ⟨b, 0, none⟩) 2 2] w fun e w' => e = .returned (.int .i64 0) ∧ Bel w w' := Or_any b 0 0 w h1 h2 (.inl rfl) (.inl rfl)
set_option maxRecDepth 20000 in
set_option maxHeartbeats 8000000 in
theorem Compose_any (A : Option Addr) (a : List BindD) (ca : Nat) (B : Option Addr) (b : List BindD) (cb : Nat) (w : World) (hL : BL w A ca a) (hl : a.length ≤ 100000) (hM : BL w B cb b) (hm : b.length ≤ 100000) :
    Calls Try.prog 14 #[.slice A a.length ca, .slice B b.length cb] w fun e w' => (∃ q c out n, RowKit.Hid ((out, n) = compD a b) ∧ RowKit.Hid (OB w w' q c out) ∧ e = .returned (.tuple #[.slice q out.length c, .int .i64 n])) ∧ Bel w w' := by
  have HL := Lib.hid hL
  have HM := Lib.hid hM
  clear hL hM
  have hl2 : a.length ≤ 1000000 := by omega
  have hm2 : b.length ≤ 1000000 := by omega
  have hb : Bel w w := Below.refl _ _
  have hC1 := Lib.hid (fun W (hg : Bel w W) => Check_any A a ca W (HL.out.bel hg) hl2)
  have hC2 := Lib.hid (fun W (hg : Bel w W) => Check_any B b cb W (HM.out.bel hg) hm2)
  by_cases hc : checkB a = true ∧ checkB b = true
  case neg =>
    have HR : RowKit.Hid (compD a b = ([], 15)) := Lib.hid (by
      cases h1 : checkB a with
      | false => exact comp_bad1 h1
      | true => cases h2 : checkB b with
        | false => exact comp_bad2 h2
        | true => exact absurd ⟨h1, h2⟩ hc)
    obtain ⟨e1, e2, h1, h2, k1, k2, k3⟩ : ∃ e1 e2, errB a = e1 ∧ errB b = e2 ∧ (e1 = 0 ∨ e1 = 15) ∧ (e2 = 0 ∨ e2 = 15) ∧ (if e1 = 0 then e2 else e1) = 15 := by
      cases h1 : checkB a with
      | false => exact ⟨15, errB b, errB_bad h1, rfl, .inr rfl, (by cases h2 : checkB b <;> simp [errB, h2]), by simp⟩
      | true => cases h2 : checkB b with
        | false => exact ⟨0, 15, errB_ok h1, errB_bad h2, .inl rfl, .inr rfl, by simp⟩
        | true => exact absurd ⟨h1, h2⟩ hc
    rw [h1] at hC1
    rw [h2] at hC2
    have K1 := Lib.hid k1
    have K2 := Lib.hid k2
    have K3 := Lib.hid k3
    clear h1 h2 k1 k2 k3 hc
    go_enter Try.func14, Try.ntmps14
    go_wp2_with (first | (go_at_call_of 19 (Value.slice A a.length ca); refine (hC1.out _ hb).mono ?_; rintro e w1 ⟨rfl, hg⟩; have hb := hb.trans' hg; clear hg) | (go_at_call 19; refine (hC2.out _ hb).mono ?_; rintro e w1 ⟨rfl, hg⟩; have hb := hb.trans' hg; clear hg) | (go_at_call 46; refine (Or_any _ e1 e2 _ (cell_of_block (heap_alloc_new _ _) rfl) (cell_of_block (heap_alloc_new _ _) rfl) K1.out K2.out).mono ?_; rw [K3.out]; rintro e w3 ⟨rfl, hg⟩; have hb := (hb.trans' (bel_alloc _ _)).trans' hg; clear hg))
    go_ret2
    exact ⟨⟨none, 0, [], 15, Lib.hid HR.out.symm, Lib.hid (OB.nil w hb), rfl⟩, hb⟩
  obtain ⟨hca, hcb⟩ := hc
  have HCA := Lib.hid hca
  have HCB := Lib.hid hcb
  rw [errB_ok hca] at hC1
  rw [errB_ok hcb] at hC2
  clear hca hcb
  have HAa := Lib.hid (checkB_iff.1 HCA.out).1
  have HAb := Lib.hid (checkB_iff.1 HCB.out).1
  have HU1 := Lib.hid (und_len a b)
  have HU2 := Lib.hid (unb_len b a)
  have HJL := Lib.hid (compL_len a b)
  have hU := Lib.hid (fun W (hg : Bel w W) => under_any A a a.length ca rfl B b cb W (HL.out.bel hg) hl2 (HM.out.bel hg) hm2 HAb.out)
  have hV := Lib.hid (fun W (hg : Bel w W) => unbound_any B b cb A a ca W (HM.out.bel hg) hm2 (HL.out.bel hg) hl2 HAa.out)
  cases hc : checkB (compL a b)
  all_goals
    have HC := Lib.hid hc
    clear hc
    go_enter Try.func14, Try.ntmps14
    go_wp2_with (first | (go_at_call_of 19 (Value.slice A a.length ca); refine (hC1.out _ hb).mono ?_; rintro e w1 ⟨rfl, hg⟩; have hb := hb.trans' hg; clear hg) | (go_at_call_of 19 (Value.slice B b.length cb); refine (hC2.out _ hb).mono ?_; rintro e w2 ⟨rfl, hg⟩; have hb := hb.trans' hg; clear hg) | (go_at_call 46; refine (Or_zero _ _ (cell_of_block (heap_alloc_new _ _) rfl) (cell_of_block (heap_alloc_new _ _) rfl)).mono ?_; rintro e w3 ⟨rfl, hg⟩; have hb := (hb.trans' (bel_alloc _ _)).trans' hg; clear hg) | (go_at_call 44; refine (hU.out _ hb).mono ?_; rintro e w4 ⟨⟨q1, c1, out1, HO1, HOB1, rfl⟩, hg⟩; have hb := hb.trans' hg; clear hg) | (go_at_call 48; refine (hV.out _ hb).mono ?_; rintro e w5 ⟨⟨q2, c2, out2, HO2, HOB2, rfl⟩, hg⟩; have hb5 := hg; have hb := hb.trans' hg; clear hg))
    refine (joined_any q1 out1 out1.length c1 rfl q2 out2 out2.length c2 rfl _ ((OwnL.slice EB HOB1.out).bel hb5) (by have := HU1.out; rw [HO1.out]; omega) (OwnL.slice EB HOB2.out) (by have := HU2.out; rw [HO2.out]; omega) (by rw [HO1.out]; exact und_asc HAa.out b)).mono ?_
    rintro e w6 ⟨⟨q3, c3, out3, HO3, HOB3, rfl⟩, hg⟩
    have HOC : RowKit.Hid (out3 = compL a b) := Lib.hid (by have h3 := HO3.out; rw [HO1.out, HO2.out] at h3; exact h3)
    have hC3 := Check_any q3 out3 c3 w6 (OwnL.slice EB HOB3.out) (by rw [HOC.out]; have := HJL.out; omega)
    have HOF := Lib.hid (HOB3.out.base hb)
    have hb := hb.trans' hg
    clear hg
    try (rw [show errB out3 = 15 from (by rw [HOC.out]; exact errB_bad HC.out)] at hC3)
    try (rw [show errB out3 = 0 from (by rw [HOC.out]; exact errB_ok HC.out)] at hC3)
    have HC3 := Lib.hid hC3
    clear hC3
    go_wp2_with (fail)
    refine HC3.out.mono ?_
    rintro e w7 ⟨rfl, hg⟩
    have hb := hb.trans' hg
    have HOF := Lib.hid (HOF.out.bel' hg)
    clear hg
    go_wp2
    go_ret2
    first
      | exact ⟨⟨none, 0, [], 15, Lib.hid (comp_bad3 HCA.out HCB.out HC.out).symm, Lib.hid (OB.nil w hb), rfl⟩, hb⟩
      | exact ⟨⟨_, _, out3, 0, Lib.hid (by rw [comp_ok HCA.out HCB.out HC.out, HOC.out]), HOF, rfl⟩, hb⟩
end Go.Proofs.Ytdmdefdiglpgaaa
