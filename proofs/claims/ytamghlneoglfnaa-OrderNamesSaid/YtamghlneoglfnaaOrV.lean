/-
  The law OrderMerges for every input. Conditions: what came in lies as its parameters' types say.
-/
import Derived.Test.YtamghlneoglfnaaOrS
import Derived.Test.YtamghlneoglfnaaOrM
namespace Go.Proofs.Ytamghlneoglfnaa
open Go.RowKit

theorem sm_app {l m : List AtomD} (h : SmA l) (k : SmA m) : SmA (l ++ m) := fun x hx => (List.mem_append.1 hx).elim (h x) (k x)
theorem sm_minus {l m : List AtomD} (h : SmA l) : SmA (minusD l m) := fun x hx => h x (sorted_memA (List.mem_filter.1 hx).1)
theorem merge3_any (A : Option Addr) (l : List AtomD) (n ca : Nat) (hn : l.length = n) (B : Option Addr) (m : List AtomD) (k cb : Nat) (hk : m.length = k) (C : Option Addr) (q : List AtomD) (p cc : Nat) (hp : q.length = p) (W : World) (hL : AL W A ca l) (hM : AL W B cb m) (hQ : AL W C cc q) (hl : n + k + p ≤ 100000) (h1 : SmA l) (h2 : SmA m) (h3 : SmA q) (g : Nat) (hg : W.heap.size = g) :
    Calls Try.prog 16 #[.slice (some ⟨g, 0, none⟩) 3 3] (W.alloc (.cells #[.slice A n ca, .slice B k cb, .slice C p cc] 29)) fun e w' => (∃ q' c', RowKit.Hid (OA W w' q' c' (sortedD (l ++ (m ++ q)))) ∧ e = .returned (.slice q' (sortedD (l ++ (m ++ q))).length c')) ∧ Bel W w' := by
  subst hg
  have h0 := heap_alloc_new W (.cells #[.slice A n ca, .slice B k cb, .slice C p cc] 29)
  have hA := bel_alloc W (.cells #[.slice A n ca, .slice B k cb, .slice C p cc] 29)
  have hV := LV.three h0 hn (hL.bel hA) hk (hM.bel hA) hp (hQ.bel hA)
  have hf : [l, m, q].flatten = l ++ (m ++ q) := by simp
  refine (Merge_any _ _ _ 3 3 rfl _ hV (by rw [hf]; simp; omega) (by decide) (by rw [hf]; exact sm_app h1 (sm_app h2 h3))).mono ?_
  rw [hf]
  rintro e w' ⟨⟨q', c', HO, rfl⟩, hg⟩
  exact ⟨⟨q', c', Lib.hid ⟨HO.out.row, hA.trans' hg, fun j h => by have := HO.out.new j h; have := hA.size; omega⟩, rfl⟩, hA.trans' hg⟩
theorem merge2_any (A : Option Addr) (l : List AtomD) (n ca : Nat) (hn : l.length = n) (B : Option Addr) (m : List AtomD) (k cb : Nat) (hk : m.length = k) (W : World) (hL : AL W A ca l) (hM : AL W B cb m) (hl : n + k ≤ 100000) (h1 : SmA l) (h2 : SmA m) (g : Nat) (hg : W.heap.size = g) :
    Calls Try.prog 16 #[.slice (some ⟨g, 0, none⟩) 2 2] (W.alloc (.cells #[.slice A n ca, .slice B k cb] 29)) fun e w' => (∃ q' c', RowKit.Hid (OA W w' q' c' (sortedD (l ++ m))) ∧ e = .returned (.slice q' (sortedD (l ++ m)).length c')) ∧ Bel W w' := by
  subst hg
  have h0 := heap_alloc_new W (.cells #[.slice A n ca, .slice B k cb] 29)
  have hA := bel_alloc W (.cells #[.slice A n ca, .slice B k cb] 29)
  have hV := LV.two h0 hn (hL.bel hA) hk (hM.bel hA)
  have hf : [l, m].flatten = l ++ m := by simp
  refine (Merge_any _ _ _ 2 2 rfl _ hV (by rw [hf]; simp; omega) (by decide) (by rw [hf]; exact sm_app h1 h2)).mono ?_
  rw [hf]
  rintro e w' ⟨⟨q', c', HO, rfl⟩, hg⟩
  exact ⟨⟨q', c', Lib.hid ⟨HO.out.row, hA.trans' hg, fun j h => by have := HO.out.new j h; have := hA.size; omega⟩, rfl⟩, hA.trans' hg⟩
theorem sorted_onto (x n : List AtomD) : sortedD (sortedD x ++ n) = sortedD (x ++ n) := sorted_congr (fun k => by rw [firstK_app, firstK_app, sorted_first])
theorem one_minus {l m : List AtomD} (h : OneText (l ++ m)) : sortedD (minusD l m ++ m) = sortedD (l ++ m) := by
  have hl : OneText l := one_sub h (fun a ha => List.mem_append_left _ ha)
  refine sorted_same (one_sub h fun a ha => ?_) h fun a => ?_
  · rcases List.mem_append.1 ha with h1 | h1
    · exact List.mem_append_left _ (sorted_memA (List.mem_filter.1 h1).1)
    · exact List.mem_append_right _ h1
  · rw [List.mem_append, List.mem_append]
    constructor
    · rintro (h1 | h1)
      · exact .inl (sorted_memA (List.mem_filter.1 h1).1)
      · exact .inr h1
    · rintro (h1 | h1)
      · cases q : hasK m a with
        | false => exact .inl (List.mem_filter.2 ⟨(sorted_mem hl).2 h1, by rw [q]; rfl⟩)
        | true =>
          obtain ⟨y, hy, e⟩ := hasK_iff.1 q
          have : y = a := h y (List.mem_append_right _ hy) a (List.mem_append_left _ h1) e
          exact .inr (this ▸ hy)
      · exact .inr h1
theorem both_in {l m : List AtomD} {x : AtomD} (h : x ∈ minusD l (minusD l m)) : hasK m x = true := by
  obtain ⟨h1, h2⟩ := List.mem_filter.1 h
  have h3 : hasK l x = true := hasK_iff.2 ⟨x, sorted_memA h1, rfl⟩
  rw [minus_has, h3, Bool.true_and] at h2
  simpa using h2
theorem part_len2 (p : AtomD → Bool) : ∀ l : List AtomD, (l.filter p).length + (l.filter (fun x => !p x)).length = l.length
  | [] => rfl
  | x :: l => by
    have := part_len2 p l
    rw [List.filter_cons, List.filter_cons]
    cases h : p x <;> simp <;> omega
theorem both_len (l m : List AtomD) : (minusD l m).length + (minusD l (minusD l m)).length = (sortedD l).length := by
  have e : minusD l (minusD l m) = (sortedD l).filter (fun x => !(fun a => !hasK m a) x) := by
    unfold minusD
    refine List.filter_congr fun x hx => ?_
    have h3 : hasK l x = true := hasK_iff.2 ⟨x, sorted_memA hx, rfl⟩
    have := minus_has l m x
    unfold minusD at this
    rw [this, h3, Bool.true_and]
  rw [e]
  exact part_len2 _ _
theorem mem_rot {l m n : List AtomD} {a : AtomD} : a ∈ n ++ (l ++ m) ↔ a ∈ l ++ m ++ n := by
  rw [List.mem_append, List.mem_append (s := l ++ m)]
  exact Or.comm
theorem minus_le (l m : List AtomD) : (minusD l m).length ≤ l.length := Nat.le_trans (List.length_filter_le _ _) (sorted_lenA l)
set_option maxRecDepth 20000 in
set_option maxHeartbeats 16000000 in
theorem lawOrderMerges (A : Option Addr) (l : List AtomD) (ca : Nat) (B : Option Addr) (m : List AtomD) (cb : Nat) (C : Option Addr) (n : List AtomD) (cc : Nat) (w : World) (hL : AL w A ca l) (hlk : ∀ x ∈ l, AtomOk x) (hll : l.length ≤ 9223372036854775807) (hM : AL w B cb m) (hmk : ∀ x ∈ m, AtomOk x) (hml : m.length ≤ 9223372036854775807) (hN : AL w C cc n) (hnk : ∀ x ∈ n, AtomOk x) (hnl : n.length ≤ 9223372036854775807) :
    Calls Try.prog 6 #[.slice A l.length ca, .slice B m.length cb, .slice C n.length cc] w fun e w' => e = .returned (.bool true) ∧ Bel w w' := by
  have hb : Bel w w := Below.refl _ _
  have HL := Lib.hid hL
  have HM := Lib.hid hM
  have HN := Lib.hid hN
  have HLK := Lib.hid hlk
  have HMK := Lib.hid hmk
  have HNK := Lib.hid hnk
  have hLl := Lib.hid (fun W (hg : Bel w W) => lightAs_any A l ca 30 W (HL.out.bel hg) hll HLK.out)
  have hLm := Lib.hid (fun W (hg : Bel w W) => lightAs_any B m cb 30 W (HM.out.bel hg) hml HMK.out)
  have hLn := Lib.hid (fun W (hg : Bel w W) => lightAs_any C n cc 30 W (HN.out.bel hg) hnl HNK.out)
  clear hL hM hN hlk hmk hnk hll hml hnl
  cases q0 : lightAs l 30
  case false =>
    rw [q0] at hLl
    clear q0
    go_enter Try.func6, Try.ntmps6
    go_wp2_with (fail)
    refine (lives8_any _).mono ?_
    rintro e w1 ⟨rfl, hg⟩
    replace hb := hb.trans' hg
    clear hg
    go_wp2_with (fail)
    refine (hLl.out _ hb).mono ?_
    rintro e w2 ⟨rfl, hg⟩
    replace hb := hb.trans' hg
    clear hg
    go_wp2
    go_ret
    exact ⟨rfl, hb⟩
  rw [q0] at hLl
  cases q1 : lightAs m 30
  case false =>
    rw [q1] at hLm
    clear q0 q1
    go_enter Try.func6, Try.ntmps6
    go_wp2_with (fail)
    refine (lives8_any _).mono ?_
    rintro e w1 ⟨rfl, hg⟩
    replace hb := hb.trans' hg
    clear hg
    go_wp2_with (fail)
    refine (hLl.out _ hb).mono ?_
    rintro e w2 ⟨rfl, hg⟩
    replace hb := hb.trans' hg
    clear hg
    go_wp2_with (fail)
    refine (hLm.out _ hb).mono ?_
    rintro e w3 ⟨rfl, hg⟩
    replace hb := hb.trans' hg
    clear hg
    go_wp2
    go_ret
    exact ⟨rfl, hb⟩
  rw [q1] at hLm
  cases q2 : lightAs n 30
  case false =>
    rw [q2] at hLn
    clear q0 q1 q2
    go_enter Try.func6, Try.ntmps6
    go_wp2_with (fail)
    refine (lives8_any _).mono ?_
    rintro e w1 ⟨rfl, hg⟩
    replace hb := hb.trans' hg
    clear hg
    go_wp2_with (fail)
    refine (hLl.out _ hb).mono ?_
    rintro e w2 ⟨rfl, hg⟩
    replace hb := hb.trans' hg
    clear hg
    go_wp2_with (fail)
    refine (hLm.out _ hb).mono ?_
    rintro e w3 ⟨rfl, hg⟩
    replace hb := hb.trans' hg
    clear hg
    go_wp2_with (fail)
    refine (hLn.out _ hb).mono ?_
    rintro e w4 ⟨rfl, hg⟩
    replace hb := hb.trans' hg
    clear hg
    go_wp2
    go_ret
    exact ⟨rfl, hb⟩
  rw [q2] at hLn
  obtain ⟨hl30, hlt⟩ := light_each q0
  obtain ⟨hm30, hmt⟩ := light_each q1
  obtain ⟨hn30, hnt⟩ := light_each q2
  have HSL : RowKit.Hid (SmA l) := Lib.hid (fun x hx => AtomOk.sm (hlt x hx))
  have HSM : RowKit.Hid (SmA m) := Lib.hid (fun x hx => AtomOk.sm (hmt x hx))
  have HSN : RowKit.Hid (SmA n) := Lib.hid (fun x hx => AtomOk.sm (hnt x hx))
  have hl40 : l.length ≤ 30 := by omega
  have hm40 : m.length ≤ 30 := by omega
  have hn40 : n.length ≤ 30 := by omega
  clear q0 q1 q2 hlt hmt hnt hl30 hm30 hn30
  go_enter Try.func6, Try.ntmps6
  go_wp2_with (fail)
  refine (lives8_any _).mono ?_
  rintro e w1 ⟨rfl, hg⟩
  replace hb := hb.trans' hg
  clear hg
  go_wp2_with (fail)
  refine (hLl.out _ hb).mono ?_
  rintro e w2 ⟨rfl, hg⟩
  replace hb := hb.trans' hg
  clear hg
  go_wp2_with (fail)
  refine (hLm.out _ hb).mono ?_
  rintro e w3 ⟨rfl, hg⟩
  replace hb := hb.trans' hg
  clear hg
  go_wp2_with (fail)
  refine (hLn.out _ hb).mono ?_
  rintro e w4 ⟨rfl, hg⟩
  replace hb := hb.trans' hg
  clear hg
  have HB := Lib.hid hb
  have HB4 := Lib.hid hb
  clear hb hLl hLm hLn
  go_wp2_with (fail)
  refine (ownA_any A l l.length ca rfl _ (HL.out.bel HB.out) (by omega)).mono ?_
  rintro e w5 ⟨⟨q5, c5, HO5, rfl⟩, hg⟩
  replace HB := Lib.hid (HB.out.trans' hg)
  clear hg
  have HAK : RowKit.Hid (∀ x ∈ l ++ m ++ n, AtomOk x) := Lib.hid (fun x hx => by
    rcases List.mem_append.1 hx with h | h
    · exact (List.mem_append.1 h).elim (HLK.out x) (HMK.out x)
    · exact HNK.out x h)
  clear HLK HMK HNK
  go_wp2_with (at_builtin; first | (refine wpList_catA rfl (.tmp 29) (.tmp 30) rfl rfl rfl HO5.out rfl (HM.out.bel HB.out) rfl (by omega) ?_; intro q6 c6 w6 HO6; have HB6 : RowKit.Hid (Bel w w6) := Lib.hid (HB4.out.trans' HO6.out.bel)) | (refine wpList_catA rfl (.tmp 31) (.tmp 32) rfl rfl rfl HO6.out (by simp) (HN.out.bel HB6.out) rfl (by omega) ?_; intro q7 c7 w7 HO7; have HB7 : RowKit.Hid (Bel w w7) := Lib.hid (HB4.out.trans' HO7.out.bel)))
  obtain ⟨al, hal⟩ : ∃ x, x = l ++ m ++ n := ⟨_, rfl⟩
  rw [← hal] at HAK HO7
  obtain ⟨tot, htot⟩ : ∃ t, t = l.length + m.length + n.length := ⟨_, rfl⟩
  have hall : al.length = tot := by rw [hal, htot, List.length_append, List.length_append]
  have HAL := Lib.hid (al_own HO7.out)
  have HALE := Lib.hid hal
  have ht90 : tot ≤ 90 := by omega
  have HTT := Lib.hid hall
  rw [← htot]
  clear hal htot HB6 HO6 HO5 HB HB4 HO7 hall
  go_wp2
  go_loopw [8] (fun i wr => ∃ k : Nat, k ≤ tot ∧ i = .int .i64 k ∧ RowKit.Hid (∀ j (h : j < al.length), j < k → checkD al[j] = 0) ∧ RowKit.Hid (Bel w7 wr)) (fun i _ => tot - (intOf i).toNat)
  case atStart => exact ⟨0, Nat.zero_le _, rfl, Lib.hid (fun j _ h => absurd h (Nat.not_lt_zero _)), Lib.hid (Below.refl _ _)⟩
  case round =>
    obtain ⟨k, hk, rfl, HV, HR⟩ := hrel
    by_cases hlt : k < tot
    · have hka : k < al.length := by rw [HTT.out]; exact hlt
      obtain ⟨b, o, rfl, hbb, hc⟩ := al_get (HAL.out.bel HR.out) (by omega)
      obtain ⟨c0, c1, c2, c3, c4, c5, c6, c7, c8, c9, c10⟩ := hc k hka
      have hq : (0 : Int) ≤ k := by omega
      have hq2 : (k : Int) < tot := by omega
      have HX := Lib.hid (HAK.out _ (List.getElem_mem hka))
      have HV2 : RowKit.Hid (checkD al[k] = 0 → ∀ j (h : j < al.length), j < k + 1 → checkD al[j] = 0) := Lib.hid (fun e j h hj => by
        rcases Nat.lt_or_ge j k with h1 | h1
        · exact HV.out j h h1
        · have : j = k := by omega
          subst this; exact e)
      clear hc hbb
      generalize al[k] = x at c0 c1 c2 c3 c4 c5 c6 c7 c8 c9 c10 HX HV2
      have HKX := Lib.hid (fun W => rCheck_any x W HX.out)
      by_cases q2 : checkD x = 0
      · have HV3 := Lib.hid (HV2.out q2)
        rw [q2] at HKX
        clear q2 HV2
        go_wp2_with (fail)
        refine (HKX.out _).mono ?_
        rintro e w8 ⟨rfl, hg⟩
        have HR2 := Lib.hid (HR.out.trans' hg)
        clear hg
        go_wp2
        go_roundw
        case rel => exact ⟨k + 1, by omega, by go_num, HV3, HR2⟩
        case measure => simp [intOf]; omega
      · have hz : (checkD x != 0) = true := by simpa using q2
        have hz2 : (checkD x == 0) = false := by simpa using q2
        clear q2
        go_wp2_with (fail)
        refine (HKX.out _).mono ?_
        rintro e w8 ⟨rfl, hg⟩
        have HR2 := Lib.hid (HB7.out.trans' (HR.out.trans' hg))
        clear hg
        go_wp2
        go_ret
        exact ⟨rfl, HR2.out⟩
    obtain rfl : tot = k := by omega
    have HONE : RowKit.Hid (OneText (l ++ m ++ n)) := Lib.hid (by
      rw [← HALE.out]
      refine one_valid fun x hx => ?_
      obtain ⟨j, hj, rfl⟩ := List.getElem_of_mem hx
      exact HV.out j hj (by rw [← HTT.out]; exact hj))
    have HB := Lib.hid (HB7.out.trans' HR.out)
    replace HAL := Lib.hid (HAL.out.bel HR.out)
    clear HV HR HB7 HAK hlt hk
    obtain ⟨T, hT⟩ : ∃ T, T = sortedD (l ++ (m ++ n)) := ⟨_, rfl⟩
    obtain ⟨M2, hM2⟩ : ∃ T, T = sortedD (l ++ m) := ⟨_, rfl⟩
    obtain ⟨O, hO⟩ : ∃ T, T = minusD l m := ⟨_, rfl⟩
    obtain ⟨Bo, hBo⟩ : ∃ T, T = minusD l O := ⟨_, rfl⟩
    obtain ⟨SL, hSL⟩ : ∃ T, T = sortedD l := ⟨_, rfl⟩
    have e1 : sortedD (n ++ (l ++ m)) = T := by
      rw [hT, ← List.append_assoc l m n]
      exact sorted_same (one_sub HONE.out fun a ha => mem_rot.1 ha) HONE.out fun a => mem_rot
    have e2 : sortedD (M2 ++ n) = T := by rw [hM2, sorted_onto, hT, List.append_assoc]
    have e3 : sortedD al = T := by rw [HALE.out, hT, List.append_assoc]
    have e4 : sortedD (O ++ m) = M2 := by rw [hO, hM2]; exact one_minus (one_sub HONE.out fun a ha => List.mem_append_left _ ha)
    have hTl : T.length ≤ 90 := by
      have := sorted_lenA (l ++ (m ++ n))
      rw [← hT] at this; simp at this; omega
    have hM2l : M2.length ≤ 60 := by
      have := sorted_lenA (l ++ m)
      rw [← hM2] at this; simp at this; omega
    have hOl : O.length ≤ 30 := by have := minus_le l m; rw [← hO] at this; omega
    have hBl : Bo.length ≤ 30 := by have := minus_le l O; rw [← hBo] at this; omega
    have hsum : O.length + Bo.length = SL.length := by rw [hBo, hSL, hO]; exact both_len l m
    have HTA : RowKit.Hid (AscA T) := Lib.hid (by rw [hT]; exact sorted_ascA _)
    have HTS : RowKit.Hid (SmA T) := Lib.hid (by rw [hT]; exact sm_sorted (sm_app HSL.out (sm_app HSM.out HSN.out)))
    have HM2S : RowKit.Hid (SmA M2) := Lib.hid (by rw [hM2]; exact sm_sorted (sm_app HSL.out HSM.out))
    have HOS : RowKit.Hid (SmA O) := Lib.hid (by rw [hO]; exact sm_minus HSL.out)
    have HALS : RowKit.Hid (SmA al) := Lib.hid (by rw [HALE.out]; exact sm_app (sm_app HSL.out HSM.out) HSN.out)
    have HBH : RowKit.Hid (∀ x ∈ Bo, hasK (sortedD m) x = true ∧ AtomSm x) := Lib.hid (fun x hx => by
      rw [hBo, hO] at hx
      exact ⟨by rw [sorted_hasK]; exact both_in hx, HSL.out x (sorted_memA (List.mem_filter.1 hx).1)⟩)
    have hSm : (sortedD m).length ≤ 30 := by have := sorted_lenA m; omega
    have hC1 := Lib.hid (fun W (hg : Bel w W) g hgg => merge3_any A l l.length ca rfl B m m.length cb rfl C n n.length cc rfl W (HL.out.bel hg) (HM.out.bel hg) (HN.out.bel hg) (by omega) HSL.out HSM.out HSN.out g hgg)
    have hC2 := Lib.hid (fun W (hg : Bel w W) g hgg => merge3_any C n n.length cc rfl A l l.length ca rfl B m m.length cb rfl W (HN.out.bel hg) (HL.out.bel hg) (HM.out.bel hg) (by omega) HSN.out HSL.out HSM.out g hgg)
    have hC3 := Lib.hid (fun W (hg : Bel w W) g hgg => merge2_any A l l.length ca rfl B m m.length cb rfl W (HL.out.bel hg) (HM.out.bel hg) (by omega) HSL.out HSM.out g hgg)
    have hC4 := Lib.hid (fun q c W (h : AL W q c M2) (hg : Bel w W) g hgg => merge2_any q M2 M2.length c rfl C n n.length cc rfl W h (HN.out.bel hg) (by omega) HM2S.out HSN.out g hgg)
    have hC5 := Lib.hid (fun q c W (h : AL W q c al) => Sorted_any q al tot c HTT.out W h (by rw [HTT.out]; omega) HALS.out)
    have hC6 := Lib.hid (fun W (hg : Bel w W) => Minus_any A l l.length ca rfl B m m.length cb rfl W (HL.out.bel hg) (by omega) HSL.out (HM.out.bel hg) (by omega) HSM.out)
    have hC7 := Lib.hid (fun q c W (h : AL W q c O) (hg : Bel w W) => Minus_any A l l.length ca rfl q O O.length c rfl W (HL.out.bel hg) (by omega) HSL.out h (by omega) HOS.out)
    have hC8 := Lib.hid (fun q c W (h : AL W q c O) (hg : Bel w W) g hgg => merge2_any q O O.length c rfl B m m.length cb rfl W h (HM.out.bel hg) (by omega) HOS.out HSM.out g hgg)
    have hC9 := Lib.hid (fun q c W (h : AL W q c l) => Sorted_any q l l.length c rfl W h (by omega) HSL.out)
    have hCI := Lib.hid (fun q c W (h : AL W q c T) => Is_any q T T.length c rfl W h (by omega) HTS.out)
    simp only [← hT] at hC1
    simp only [e1] at hC2
    simp only [← hM2] at hC3
    simp only [e2] at hC4
    simp only [e3] at hC5
    simp only [← hO] at hC6
    simp only [← hBo] at hC7
    simp only [e4] at hC8
    simp only [← hSL] at hC9
    simp only [isD_yes HTA.out] at hCI
    clear e1 e2 e3 e4 hT hM2 hO hBo hSL HONE HALE HTA HTS HM2S HOS HALS
    go_wp2_with (fail)
    refine (hC1.out _ HB.out _ rfl).mono ?_
    rintro e w20 ⟨⟨qa, ka, HOa, rfl⟩, hg⟩
    replace HAL := Lib.hid (HAL.out.bel hg)
    replace HB := Lib.hid (HB.out.trans' hg)
    clear hg
    have HTa := Lib.hid (al_own HOa.out)
    clear HOa hC1
    go_wp2_with (fail)
    refine (hCI.out qa ka _ HTa.out).mono ?_
    rintro e w21 ⟨rfl, hg⟩
    replace HAL := Lib.hid (HAL.out.bel hg)
    replace HTa := Lib.hid (HTa.out.bel hg)
    replace HB := Lib.hid (HB.out.trans' hg)
    clear hg
    clear hCI
    go_wp2_with (fail)
    refine (hC2.out _ HB.out _ rfl).mono ?_
    rintro e w22 ⟨⟨qb, kb, HOb, rfl⟩, hg⟩
    replace HAL := Lib.hid (HAL.out.bel hg)
    replace HTa := Lib.hid (HTa.out.bel hg)
    replace HB := Lib.hid (HB.out.trans' hg)
    clear hg
    have HTb := Lib.hid (al_own HOb.out)
    clear HOb hC2
    go_wp2_with (fail)
    refine (sameA_any qa T T.length ka rfl qb T.length kb rfl _ HTa.out HTb.out (by omega)).mono ?_
    rintro e w23 ⟨rfl, hg⟩
    replace HAL := Lib.hid (HAL.out.bel hg)
    replace HTa := Lib.hid (HTa.out.bel hg)
    replace HB := Lib.hid (HB.out.trans' hg)
    clear hg
    clear HTb
    go_wp2_with (fail)
    refine (hC3.out _ HB.out _ rfl).mono ?_
    rintro e w24 ⟨⟨qd, kd, HOd, rfl⟩, hg⟩
    replace HAL := Lib.hid (HAL.out.bel hg)
    replace HTa := Lib.hid (HTa.out.bel hg)
    replace HB := Lib.hid (HB.out.trans' hg)
    clear hg
    have HTd := Lib.hid (al_own HOd.out)
    clear HOd
    go_wp2_with (fail)
    refine (hC4.out qd kd _ HTd.out HB.out _ rfl).mono ?_
    rintro e w25 ⟨⟨qe, ke, HOe, rfl⟩, hg⟩
    replace HAL := Lib.hid (HAL.out.bel hg)
    replace HTa := Lib.hid (HTa.out.bel hg)
    replace HB := Lib.hid (HB.out.trans' hg)
    clear hg
    have HTe := Lib.hid (al_own HOe.out)
    clear HOe hC4 HTd
    go_wp2_with (fail)
    refine (sameA_any qa T T.length ka rfl qe T.length ke rfl _ HTa.out HTe.out (by omega)).mono ?_
    rintro e w26 ⟨rfl, hg⟩
    replace HAL := Lib.hid (HAL.out.bel hg)
    replace HTa := Lib.hid (HTa.out.bel hg)
    replace HB := Lib.hid (HB.out.trans' hg)
    clear hg
    clear HTe
    go_wp2_with (fail)
    refine (hC5.out _ _ _ HAL.out).mono ?_
    rintro e w27 ⟨⟨qf, kf, HOf, rfl⟩, hg⟩
    replace HTa := Lib.hid (HTa.out.bel hg)
    replace HB := Lib.hid (HB.out.trans' hg)
    clear hg
    have HTf := Lib.hid (al_own HOf.out)
    clear HOf hC5 HAL
    go_wp2_with (fail)
    refine (sameA_any qa T T.length ka rfl qf T.length kf rfl _ HTa.out HTf.out (by omega)).mono ?_
    rintro e w28 ⟨rfl, hg⟩
    replace HB := Lib.hid (HB.out.trans' hg)
    clear hg
    clear HTf HTa
    go_wp2_with (fail)
    refine (hC6.out _ HB.out).mono ?_
    rintro e w29 ⟨⟨qo, ko, HOo, rfl⟩, hg⟩
    replace HB := Lib.hid (HB.out.trans' hg)
    clear hg
    have HTo := Lib.hid (al_own HOo.out)
    clear HOo hC6
    go_wp2_with (fail)
    refine (hC7.out qo ko _ HTo.out HB.out).mono ?_
    rintro e w30 ⟨⟨qh, kh, HOh, rfl⟩, hg⟩
    replace HTo := Lib.hid (HTo.out.bel hg)
    replace HB := Lib.hid (HB.out.trans' hg)
    clear hg
    have HTh := Lib.hid (al_own HOh.out)
    clear HOh hC7
    have HWB := Lib.hid HB.out
    go_wp2
    go_loopw [12] (fun i wr => ∃ k : Nat, k ≤ Bo.length ∧ i = .int .i64 k ∧ RowKit.Hid (Bel w30 wr)) (fun i _ => Bo.length - (intOf i).toNat)
    case atStart => exact ⟨0, Nat.zero_le _, rfl, Lib.hid (Below.refl _ _)⟩
    case round =>
      obtain ⟨k, hk, rfl, HR⟩ := hrel
      by_cases hlt : k < Bo.length
      · obtain ⟨bb, ob, rfl⟩ := al_at HTh.out hlt
        have HCX := Lib.hid (al_later HTh.out hlt)
        have hq : (0 : Int) ≤ k := by omega
        have hq2 : (k : Int) < Bo.length := by omega
        have HX := Lib.hid (HBH.out _ (List.getElem_mem hlt))
        generalize Bo[k] = x at HCX HX
        have hd : Bel wr wr.drew := bel_drew' (Below.refl _ _)
        have HH := Lib.hid (fun q c W (h : AL W q c (sortedD m)) => Has_any q (sortedD m) (sortedD m).length c rfl x W h (by omega) (sm_sorted HSM.out) HX.out.2)
        simp only [HX.out.1] at HH
        obtain ⟨c0, c1, c2, c3, c4, c5, c6, c7, c8, c9, c10⟩ := HCX.out wr.drew (HR.out.trans' hd)
        go_wp2
        go_region_held3 (fun w' => w'.cell? ⟨bb, ob + k * 11, none⟩ = some (.string x.says) ∧ w'.cell? ⟨bb, ob + k * 11 + 1, none⟩ = some (.string x.pred) ∧ w'.cell? ⟨bb, ob + k * 11 + 2, none⟩ = some (.int .i64 x.n) ∧ w'.cell? ⟨bb, ob + k * 11 + 3, none⟩ = some (.bool x.t0.v) ∧ w'.cell? ⟨bb, ob + k * 11 + 4, none⟩ = some (.string x.t0.name) ∧ w'.cell? ⟨bb, ob + k * 11 + 5, none⟩ = some (.bool x.t1.v) ∧ w'.cell? ⟨bb, ob + k * 11 + 6, none⟩ = some (.string x.t1.name) ∧ w'.cell? ⟨bb, ob + k * 11 + 7, none⟩ = some (.bool x.t2.v) ∧ w'.cell? ⟨bb, ob + k * 11 + 8, none⟩ = some (.string x.t2.name) ∧ w'.cell? ⟨bb, ob + k * 11 + 9, none⟩ = some (.bool x.t3.v) ∧ w'.cell? ⟨bb, ob + k * 11 + 10, none⟩ = some (.string x.t3.name)) (first | exact HCX.out _ (HR.out.trans' hd) | go_keep | trivial)
          (first | (go_at_call 10; refine (Sorted_any B m m.length cb rfl _ (HM.out.bel (HB.out.trans' (HR.out.trans' hd))) (by omega) HSM.out).mono ?_; rintro e wX ⟨⟨qx, kx, HOx, rfl⟩, hg⟩; replace hd := hd.trans' hg; clear hg) | (go_at_call 15; refine (HH.out qx kx _ (al_own HOx.out)).mono ?_; rintro e wY ⟨rfl, hg⟩; replace hd := hd.trans' hg; clear hg))
        all_goals
          clear c0 c1 c2 c3 c4 c5 c6 c7 c8 c9 c10
          go_wp2
          go_roundw
          case rel => exact ⟨k + 1, by omega, by go_num, Lib.hid (HR.out.trans' hd)⟩
          case measure => simp [intOf]; omega
      obtain rfl : k = Bo.length := by omega
      clear hlt hk
      replace HB := Lib.hid (HB.out.trans' HR.out)
      replace HTo := Lib.hid (HTo.out.bel HR.out)
      clear HR HTh HBH HWB
      go_wp2_with (fail)
      refine (hC8.out qo ko _ HTo.out HB.out _ rfl).mono ?_
      rintro e w31 ⟨⟨q1, k1, HO1, rfl⟩, hg⟩
      replace HB := Lib.hid (HB.out.trans' hg)
      clear hg
      have HT1 := Lib.hid (al_own HO1.out)
      clear HO1 hC8 HTo
      go_wp2_with (fail)
      refine (hC3.out _ HB.out _ rfl).mono ?_
      rintro e w32 ⟨⟨q2, k2, HO2, rfl⟩, hg⟩
      replace HT1 := Lib.hid (HT1.out.bel hg)
      replace HB := Lib.hid (HB.out.trans' hg)
      clear hg
      have HT2 := Lib.hid (al_own HO2.out)
      clear HO2 hC3
      go_wp2_with (fail)
      refine (sameA_any q1 M2 M2.length k1 rfl q2 M2.length k2 rfl _ HT1.out HT2.out (by omega)).mono ?_
      rintro e w33 ⟨rfl, hg⟩
      replace HB := Lib.hid (HB.out.trans' hg)
      clear hg
      clear HT1 HT2
      go_wp2_with (fail)
      refine (ownA_any A l l.length ca rfl _ (HL.out.bel HB.out) (by omega)).mono ?_
      rintro e w34 ⟨⟨q3, k3, HO3, rfl⟩, hg⟩
      replace HB := Lib.hid (HB.out.trans' hg)
      clear hg
      have HT3 := Lib.hid (al_own HO3.out)
      clear HO3
      go_wp2_with (fail)
      refine (hC9.out q3 k3 _ HT3.out).mono ?_
      rintro e w35 ⟨⟨q4, k4, HO4, rfl⟩, hg⟩
      replace HB := Lib.hid (HB.out.trans' hg)
      clear hg
      clear HT3 HO4 hC9
      have hw : IntKind.i64.wrap ((O.length : Int) + (Bo.length : Int)) = (SL.length : Int) := (IntWalk.i64_in _ (by omega)).trans (by omega)
      have hw2 : (O.length : Int) + (Bo.length : Int) = (SL.length : Int) := by omega
      have hee : ((SL.length : Int) == (SL.length : Int)) = true := by simp
      clear hsum
      go_wp2
      go_ret
      exact ⟨rfl, HB.out⟩
end Go.Proofs.Ytamghlneoglfnaa
