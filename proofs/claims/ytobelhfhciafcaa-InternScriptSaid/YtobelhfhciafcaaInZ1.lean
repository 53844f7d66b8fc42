/-
  The law InternScript: whatever is taken and dropped, both tables answer alike. Condition: what came in lies as its parameter's type says.
-/
import Derived.Test.YtobelhfhciafcaaInY
import Derived.Test.YtobelhfhciafcaaKitP
import Derived.Deep.RegionWith
import Derived.Test.YtobelhfhciafcaaStH
namespace Go.Proofs.Ytobelhfhciafcaa
open Go.RowKit

theorem cells3 {w : World} {q e : Nat} {a b c : Value} (h : w.heap[q]? = some (.cells #[a, b, c] e (0, 0))) : w.cell? ⟨q, 0, none⟩ = some a ∧ w.cell? ⟨q, 1, none⟩ = some b ∧ w.cell? ⟨q, 2, none⟩ = some c := by
  refine ⟨?_, ?_, ?_⟩ <;> simp [World.cell?, h]

theorem acts_below {w W : World} {A : Option Addr} {l : List ActD} (h : ActsAt w A l) (hb : Below w.heap.size w W) : ActsAt W A l := fun j hj => by
  obtain ⟨b, o, rfl, hlt, h1, h2, h3⟩ := h j hj
  have := hb.size
  exact ⟨b, o, rfl, by omega, (hb.cell (p := ⟨b, o + j * 3, none⟩) hlt).trans h1, (hb.cell (p := ⟨b, o + j * 3 + 1, none⟩) hlt).trans h2, (hb.cell (p := ⟨b, o + j * 3 + 2, none⟩) hlt).trans h3⟩
theorem SB.like {w W W' : World} {t o : Nat} {st st' : List (ByteArray × Nat)} {K : Option (Nat × Obj)} (h : SB w W t o st st' K) (he : W'.heap = W.heap ∧ W'.tape = W.tape ∧ W'.os = W.os ∧ W'.output = W.output) : SB w W' t o st st' K :=
  h.keep ⟨he.2.2.1, he.2.1, he.2.2.2, by rw [he.1]; exact Nat.le_refl _, fun k _ => by rw [he.1]⟩
theorem SB.uses1' {w W : World} {t o : Nat} {st : List (ByteArray × Nat)} {K : Option (Nat × Obj)} (h : SB w W t o st st K) (n : Int) : Calls Try.prog 18 #[.pointer (some ⟨t, 0, none⟩), .int .i64 n] W fun e w' => e = .returned (.int .i64 (usesT st n)) ∧ w' = W := (h.uses1 n).mono fun _ _ ⟨he, hw⟩ => ⟨he, hw.symm⟩
theorem SB.uses2' {w W : World} {t o : Nat} {st : List (ByteArray × Nat)} {K : Option (Nat × Obj)} (h : SB w W t o st st K) (n : Int) : Calls Try.prog 19 #[.pointer (some ⟨o, 0, none⟩), .int .i64 n] W fun e w' => e = .returned (.int .i64 (usesT st n)) ∧ w' = W := (h.uses2 n).mono fun _ _ ⟨he, hw⟩ => ⟨he, hw.symm⟩
theorem SB.len1' {w W : World} {t o : Nat} {st : List (ByteArray × Nat)} {K : Option (Nat × Obj)} (h : SB w W t o st st K) : Calls Try.prog 20 #[.pointer (some ⟨t, 0, none⟩)] W fun e w' => e = .returned (.int .i64 (usedN st)) ∧ w' = W := h.len1.mono fun _ _ ⟨he, hw⟩ => ⟨he, hw.symm⟩
theorem SB.len2' {w W : World} {t o : Nat} {st : List (ByteArray × Nat)} {K : Option (Nat × Obj)} (h : SB w W t o st st K) (hl : st.length ≤ 1000) : Calls Try.prog 21 #[.pointer (some ⟨o, 0, none⟩)] W fun e w' => e = .returned (.int .i64 (usedN st)) ∧ w' = W := (h.len2 hl).mono fun _ _ ⟨he, hw⟩ => ⟨he, hw.symm⟩
theorem rowkeep {W W' : World} {e size n : Nat} {v : Value} {xs : List Value} (h : W.ownsRow 0 e size v n xs) (hb : Below W.heap.size W W') : W'.ownsRow 0 e size v n xs := (Fr.of_below (F := []) hb).owns h (by simp)
set_option maxRecDepth 100000 in
set_option maxHeartbeats 4000000 in
theorem script_no (A : Option Addr) (l : List ActD) (ca : Nat) (w : World) (hA : ActsAt w A l) (hl : l.length ≤ 9223372036854775807) (hok : ∀ a ∈ l, ActOk a) (h : lightB l = false) :
    Calls Try.prog 3 #[.slice A l.length ca] w fun e w' => e = .returned (.bool true) ∧ Below w.heap.size w w' := by
  go_enter Try.func3, Try.ntmps3
  go_wp2_with (first | (go_at_call 4; refine (lives_any _).mono ?_; rintro e w1 ⟨rfl, h⟩; have HL := Lib.hid h; clear h) | (go_at_call 5; refine (light_any A l ca _ (acts_below hA HL.out) hl hok).mono ?_; rintro e w' ⟨rfl, rfl⟩))
  go_ret
  exact ⟨rfl, HL.out⟩

set_option maxRecDepth 100000 in
set_option maxHeartbeats 40000000 in
theorem script_yes (A : Option Addr) (l : List ActD) (ca : Nat) (w : World) (hA : ActsAt w A l) (hok : ∀ a ∈ l, ActOk a) (h : lightB l = true) (h80 : l.length ≤ 80) :
    Calls Try.prog 3 #[.slice A l.length ca] w fun e w' => e = .returned (.bool true) ∧ Below w.heap.size w w' := by
  go_enter Try.func3, Try.ntmps3
  go_wp2_with (first | (go_at_call 4; refine (lives_any _).mono ?_; rintro e w1 ⟨rfl, h⟩; have HL := Lib.hid h; clear h) | (go_at_call 5; refine (light_any A l ca _ (acts_below hA HL.out) (by omega) hok).mono ?_; rintro e w' ⟨rfl, rfl⟩) | (go_at_call 6; refine (New_live w _ HL.out).mono ?_; rintro e w2 ⟨t, rfl, h⟩; have H0 := Lib.hid h; clear h) | (go_at_call 7; refine (rNew_any _).mono ?_; rintro e w3 ⟨o, cs, rfl, hR, hcs, hb⟩; have H1 := Lib.hid (SB.start H0.out hR hcs hb); clear hR hcs hb))
  go_loopw [5, 6, 7, 8, 9, 10, 11, 12, 13, 14, 15, 16, 17, 18, 19, 20, 41, 65] (fun a5 _ _ _ _ _ _ _ _ _ _ _ _ _ _ _ _ _ wr => ∃ (k : Nat) (st : List (ByteArray × Nat)), k ≤ l.length ∧ a5 = .int .i64 k ∧ RowKit.Hid (SB w wr t o st st none ∧ UpTo st k ∧ st.length ≤ k)) (fun a5 _ _ _ _ _ _ _ _ _ _ _ _ _ _ _ _ _ _ => l.length - (intOf a5).toNat)
  case atStart => exact ⟨0, [], Nat.zero_le _, rfl, Lib.hid ⟨H1.out, fun p hp => by simp at hp, by simp⟩⟩
  case round =>
    obtain ⟨k, st, hk, rfl, H⟩ := hrel
    by_cases hlt : k < l.length
    · obtain ⟨b, oo, rfl, hb, hc⟩ := hA.get (by omega)
      have hck := hc k hlt
      obtain ⟨⟨kk, ss, nn⟩, ha⟩ : ∃ a, a = l[k] := ⟨_, rfl⟩
      rw [← ha] at hck
      have hoka := hok _ (show (⟨kk, ss, nn⟩ : ActD) ∈ l by rw [ha]; exact List.getElem_mem hlt)
      obtain ⟨⟨hk1, hk2⟩, hs, hn1, hn2⟩ := hoka
      simp only at hck hk1 hk2 hs hn1 hn2
      obtain ⟨c1, c2, c3⟩ := hck
      have c1 := (H.out.1.bel.cell (p := ⟨b, oo + k * 3, none⟩) hb).trans c1
      have c2 := (H.out.1.bel.cell (p := ⟨b, oo + k * 3 + 1, none⟩) hb).trans c2
      have c3 := (H.out.1.bel.cell (p := ⟨b, oo + k * 3 + 2, none⟩) hb).trans c3
      have hq1 : (0 : Int) ≤ k := by omega
      have hq2 : (k : Int) < l.length := by omega
      have hpr := pick_range kk 3 (by omega)
      have HB := Lib.hid (H.out.1.box (.cells #[.int .i64 kk, .string ss, .int .i64 nn] 30))
      have hk80 : k < 80 := by omega
      clear hc ha H1 H0 HL
      rcases (by omega : pickI kk 3 = 0 ∨ pickI kk 3 = 1 ∨ pickI kk 3 = 2) with hp | hp | hp
      · have HP := Lib.hid hp
        obtain ⟨st1, n1, e1, hT⟩ : ∃ st1 n1 e1, takeT st ss = (st1, n1, e1) := ⟨_, _, _, rfl⟩
        obtain ⟨hu1, hl1, hn1b⟩ := takeT_bounds hT H.out.2.1 H.out.2.2
        have HT := Lib.hid hT
        have q1 : ((n1 : Int) != (n1 : Int)) = false := by simp
        have q2 : (e1 != e1) = false := by simp
        clear hp hpr hT
        have qa : ((textT st1 nn).toList == (textT st1 nn).toList) = true := by simp
        have qb : (textE st1 nn != textE st1 nn) = false := by simp
        have qc : ((findN st1 ss : Int) != (findN st1 ss : Int)) = false := by simp
        have qd : (findB st1 ss != findB st1 ss) = false := by simp
        have qe : ((usesT st1 nn : Int) != (usesT st1 nn : Int)) = false := by simp
        have qg : ((usedN st1 : Int) != (usedN st1 : Int)) = false := by simp
        have hel : (eachT st1 0).length ≤ 100 := by rw [eachT_len]; have : usedN st1 ≤ st1.length := List.countP_le_length; omega
        have HU1 := Lib.hid hu1
        have HL1 := Lib.hid hl1
        clear hu1
        go_wp2_with (first | (go_at_call 8; refine (pick_any kk 3 _ (by omega) (by omega) hk1 hk2).mono ?_; rw [HP.out]; rintro e w' ⟨rfl, rfl⟩) | (go_at_call 9; refine (HB.out.take1 HT.out H.out.2.1 (by omega) hs).mono ?_; rintro e w4 ⟨rfl, h⟩; obtain ⟨d1, d2, d3⟩ := cells3 h.blk; have H4 := Lib.hid h; clear h) | (go_at_call 10; refine (H4.out.take2 HT.out H.out.2.1 H.out.2.2 (by omega) hs).mono ?_; rintro e w5 ⟨rfl, h⟩; obtain ⟨f1, f2, f3⟩ := cells3 h.blk; have HX := Lib.hid h; clear h d1 d2 d3) | (go_at_call 13; refine (HX.out.text1 nn).mono ?_; rintro e w' ⟨rfl, rfl⟩) | (go_at_call 14; refine (HX.out.text2 nn).mono ?_; rintro e w' ⟨rfl, rfl⟩) | (go_at_call 15; refine (HX.out.find1 ss hs).mono ?_; rintro e w' ⟨rfl, rfl⟩) | (go_at_call 16; refine (HX.out.find2 ss (by omega) hs).mono ?_; rintro e w' ⟨rfl, rfl⟩) | (go_at_call 17; refine (HX.out.entries 100 hel (by omega)).mono ?_; rintro e w6 ⟨v, rfl, hE, h⟩; obtain ⟨p6, cp6, rfl, _, _⟩ := row_any hE.row; obtain ⟨g1, g2, g3⟩ := cells3 h.blk; have HE := Lib.hid hE; have HY := Lib.hid h; clear h hE))
        have HYd := Lib.hid (HY.out.like (W' := w6.drew) ⟨rfl, rfl, rfl, rfl⟩)
        have HEd : RowKit.Hid (w6.drew.ownsRow 0 47 2 (.slice p6 (eachT st1 0).length cp6) (eachT st1 0).length (entL (eachT st1 0))) := Lib.hid HE.out.row
        refine wp_region_still_head 40 (by kernel_rfl) (by kernel_rfl) ?_
        simp only [List.take_succ_cons, List.take_zero]
        repeat still_step
        still_call (HYd.out.uses1' nn)
        repeat still_step
        still_call (HYd.out.uses2' nn)
        repeat still_step
        still_call HYd.out.len1'
        repeat still_step
        still_call (HYd.out.len2' (by omega))
        repeat still_step
        refine wpStill_nil ?_
        refine wpAny_take (i := 41) (v := ?_) rfl (by kernel_rfl) (by kernel_rfl) (by kernel_rfl) (fun _ _ _ h => h) (Or.inl ⟨by rfl, ?_⟩) ?_
        rotate_left
        · intro w
          go_simp
          all_goals with_reducible rfl
        refine wpAny_take (i := 42) (v := ?_) rfl (by kernel_rfl) (by kernel_rfl) (by kernel_rfl) (fun _ _ _ h => h) (Or.inl ⟨by rfl, ?_⟩) ?_
        rotate_left
        · intro w
          go_simp
          all_goals with_reducible rfl
        refine wpAny_ready (rs := [43]) (by kernel_rfl) (by simp) ?_
        refine AllReady.cons rfl (fun K hK => ?_) AllReady.nil
        go_simp
        go_wp2_with (first | (go_at_call 23; refine ((HY.out.like (by exact ⟨rfl, rfl, rfl, rfl⟩)).each2 (by omega)).mono ?_; rintro e w7 ⟨v7, rfl, hE7, h⟩; obtain ⟨p7, cp7, rfl, _, _⟩ := row_any hE7.row; have HE7 := Lib.hid hE7; have H7 := Lib.hid h; clear hE7 h))
        first | (refine hK _ _ ?_; clear hK K) | skip
        refine wpAny_ready (rs := [44]) (by kernel_rfl) (by simp) ?_
        refine AllReady.cons rfl (fun K hK => ?_) AllReady.nil
        go_simp
        go_wp2_with (first | (go_at_call 22; refine (sameE_any _ _ (eachT st1 0) _ (by exact rowkeep HEd.out HE7.out.bel) (by exact HE7.out.row) (by omega)).mono ?_; rintro e w8 ⟨rfl, n8, rfl⟩))
        first | (refine hK _ _ ?_; clear hK K) | skip
        refine wpAny_take (i := 45) (v := ?_) rfl (by kernel_rfl) (by kernel_rfl) (by kernel_rfl) (fun _ _ _ h => h) (Or.inl ⟨by rfl, ?_⟩) ?_
        rotate_left
        · intro w
          go_simp
          all_goals with_reducible rfl
        refine wpAny_take (i := 46) (v := ?_) rfl (by kernel_rfl) (by kernel_rfl) (by kernel_rfl) (fun _ _ _ h => h) (Or.inl ⟨by rfl, ?_⟩) ?_
        rotate_left
        · intro w
          go_simp
          all_goals with_reducible rfl
        refine wpAny_done (by kernel_rfl) ?_ _
        all_goals
          go_wp2
          go_roundw
          case rel => exact ⟨k + 1, st1, by omega, by go_num, Lib.hid ⟨H7.out.off.like (by exact ⟨rfl, rfl, rfl, rfl⟩), HU1.out, HL1.out⟩⟩
          case measure => simp [intOf]; omega
      · have HP := Lib.hid hp
        obtain ⟨st1, e1, hT⟩ : ∃ st1 e1, dropT st nn = (st1, e1) := ⟨_, _, rfl⟩
        obtain ⟨hu0, hl0⟩ := dropT_bounds hT H.out.2.1 H.out.2.2
        have hu1 : UpTo st1 (k + 1) := fun p hp => by have := hu0 p hp; omega
        have hl1 : st1.length ≤ k + 1 := by omega
        have HT := Lib.hid hT
        have q2 : (e1 != e1) = false := by simp
        clear hp hpr hT hu0
        have qa : ((textT st1 nn).toList == (textT st1 nn).toList) = true := by simp
        have qb : (textE st1 nn != textE st1 nn) = false := by simp
        have qc : ((findN st1 ss : Int) != (findN st1 ss : Int)) = false := by simp
        have qd : (findB st1 ss != findB st1 ss) = false := by simp
        have qe : ((usesT st1 nn : Int) != (usesT st1 nn : Int)) = false := by simp
        have qg : ((usedN st1 : Int) != (usedN st1 : Int)) = false := by simp
        have hel : (eachT st1 0).length ≤ 100 := by rw [eachT_len]; have : usedN st1 ≤ st1.length := List.countP_le_length; omega
        have HU1 := Lib.hid hu1
        have HL1 := Lib.hid hl1
        clear hu1
        go_wp2_with (first | (go_at_call 8; refine (pick_any kk 3 _ (by omega) (by omega) hk1 hk2).mono ?_; rw [HP.out]; rintro e w' ⟨rfl, rfl⟩))
        go_region_with (first | (go_at_call 11; refine ((HB.out.like (by exact ⟨rfl, rfl, rfl, rfl⟩)).drop1 HT.out H.out.2.1 (by omega)).mono ?_; rintro e w4 ⟨rfl, h⟩; obtain ⟨d1, d2, d3⟩ := cells3 h.blk; have H4 := Lib.hid h; clear h) | (go_at_call 12; refine ((H4.out.like (by exact ⟨rfl, rfl, rfl, rfl⟩)).drop2 HT.out H.out.2.1 (by omega)).mono ?_; rintro e w5 ⟨rfl, h⟩; obtain ⟨f1, f2, f3⟩ := cells3 h.blk; have HX := Lib.hid h; clear h))
        all_goals go_wp2_with (first | (go_at_call 13; refine ((HX.out.like (by exact ⟨rfl, rfl, rfl, rfl⟩)).text1 nn).mono ?_; rintro e w' ⟨rfl, rfl⟩) | (go_at_call 14; refine ((HX.out.like (by exact ⟨rfl, rfl, rfl, rfl⟩)).text2 nn).mono ?_; rintro e w' ⟨rfl, rfl⟩) | (go_at_call 15; refine ((HX.out.like (by exact ⟨rfl, rfl, rfl, rfl⟩)).find1 ss hs).mono ?_; rintro e w' ⟨rfl, rfl⟩) | (go_at_call 16; refine ((HX.out.like (by exact ⟨rfl, rfl, rfl, rfl⟩)).find2 ss (by omega) hs).mono ?_; rintro e w' ⟨rfl, rfl⟩) | (go_at_call 17; refine ((HX.out.like (by exact ⟨rfl, rfl, rfl, rfl⟩)).entries 100 hel (by omega)).mono ?_; rintro e w6 ⟨v, rfl, hE, h⟩; obtain ⟨p6, cp6, rfl, _, _⟩ := row_any hE.row; obtain ⟨g1, g2, g3⟩ := cells3 h.blk; have HE := Lib.hid hE; have HY := Lib.hid h; clear h hE))
        all_goals
          have HYd := Lib.hid (HY.out.like (W' := w6.drew) ⟨rfl, rfl, rfl, rfl⟩)
          have HEd : RowKit.Hid (w6.drew.ownsRow 0 47 2 (.slice p6 (eachT st1 0).length cp6) (eachT st1 0).length (entL (eachT st1 0))) := Lib.hid HE.out.row
          refine wp_region_still_head 40 (by kernel_rfl) (by kernel_rfl) ?_
          simp only [List.take_succ_cons, List.take_zero]
          repeat still_step
          still_call (HYd.out.uses1' nn)
          repeat still_step
          still_call (HYd.out.uses2' nn)
          repeat still_step
          still_call HYd.out.len1'
          repeat still_step
          still_call (HYd.out.len2' (by omega))
          repeat still_step
          refine wpStill_nil ?_
          refine wpAny_take (i := 41) (v := ?_) rfl (by kernel_rfl) (by kernel_rfl) (by kernel_rfl) (fun _ _ _ h => h) (Or.inl ⟨by rfl, ?_⟩) ?_
          rotate_left
          · intro w
            go_simp
            all_goals with_reducible rfl
          refine wpAny_take (i := 42) (v := ?_) rfl (by kernel_rfl) (by kernel_rfl) (by kernel_rfl) (fun _ _ _ h => h) (Or.inl ⟨by rfl, ?_⟩) ?_
          rotate_left
          · intro w
            go_simp
            all_goals with_reducible rfl
          refine wpAny_ready (rs := [43]) (by kernel_rfl) (by simp) ?_
          refine AllReady.cons rfl (fun K hK => ?_) AllReady.nil
          go_simp
          go_wp2_with (first | (go_at_call 23; refine ((HY.out.like (by exact ⟨rfl, rfl, rfl, rfl⟩)).each2 (by omega)).mono ?_; rintro e w7 ⟨v7, rfl, hE7, h⟩; obtain ⟨p7, cp7, rfl, _, _⟩ := row_any hE7.row; have HE7 := Lib.hid hE7; have H7 := Lib.hid h; clear hE7 h))
          first | (refine hK _ _ ?_; clear hK K) | skip
          refine wpAny_ready (rs := [44]) (by kernel_rfl) (by simp) ?_
          refine AllReady.cons rfl (fun K hK => ?_) AllReady.nil
          go_simp
          go_wp2_with (first | (go_at_call 22; refine (sameE_any _ _ (eachT st1 0) _ (by exact rowkeep HEd.out HE7.out.bel) (by exact HE7.out.row) (by omega)).mono ?_; rintro e w8 ⟨rfl, n8, rfl⟩))
          first | (refine hK _ _ ?_; clear hK K) | skip
          refine wpAny_take (i := 45) (v := ?_) rfl (by kernel_rfl) (by kernel_rfl) (by kernel_rfl) (fun _ _ _ h => h) (Or.inl ⟨by rfl, ?_⟩) ?_
          rotate_left
          · intro w
            go_simp
            all_goals with_reducible rfl
          refine wpAny_take (i := 46) (v := ?_) rfl (by kernel_rfl) (by kernel_rfl) (by kernel_rfl) (fun _ _ _ h => h) (Or.inl ⟨by rfl, ?_⟩) ?_
          rotate_left
          · intro w
            go_simp
            all_goals with_reducible rfl
          refine wpAny_done (by kernel_rfl) ?_ _
          all_goals
            go_wp2
            go_roundw
            case rel => exact ⟨k + 1, st1, by omega, by go_num, Lib.hid ⟨H7.out.off.like (by exact ⟨rfl, rfl, rfl, rfl⟩), HU1.out, HL1.out⟩⟩
            case measure => simp [intOf]; omega
      · have HP := Lib.hid hp
        obtain ⟨st1, hT⟩ : ∃ st1, st1 = st := ⟨_, rfl⟩
        have hu1 : UpTo st1 (k + 1) := fun p hp => by rw [hT] at hp; have := H.out.2.1 p hp; omega
        have hl1 : st1.length ≤ k + 1 := by rw [hT]; have := H.out.2.2; omega
        rw [← hT] at HB
        have HX := HB
        clear hp hpr hT HB
        have qa : ((textT st1 nn).toList == (textT st1 nn).toList) = true := by simp
        have qb : (textE st1 nn != textE st1 nn) = false := by simp
        have qc : ((findN st1 ss : Int) != (findN st1 ss : Int)) = false := by simp
        have qd : (findB st1 ss != findB st1 ss) = false := by simp
        have qe : ((usesT st1 nn : Int) != (usesT st1 nn : Int)) = false := by simp
        have qg : ((usedN st1 : Int) != (usedN st1 : Int)) = false := by simp
        have hel : (eachT st1 0).length ≤ 100 := by rw [eachT_len]; have : usedN st1 ≤ st1.length := List.countP_le_length; omega
        have HU1 := Lib.hid hu1
        have HL1 := Lib.hid hl1
        clear hu1
        go_wp2_with (first | (go_at_call 8; refine (pick_any kk 3 _ (by omega) (by omega) hk1 hk2).mono ?_; rw [HP.out]; rintro e w' ⟨rfl, rfl⟩) | (go_at_call 13; refine (HX.out.text1 nn).mono ?_; rintro e w' ⟨rfl, rfl⟩) | (go_at_call 14; refine (HX.out.text2 nn).mono ?_; rintro e w' ⟨rfl, rfl⟩) | (go_at_call 15; refine (HX.out.find1 ss hs).mono ?_; rintro e w' ⟨rfl, rfl⟩) | (go_at_call 16; refine (HX.out.find2 ss (by omega) hs).mono ?_; rintro e w' ⟨rfl, rfl⟩) | (go_at_call 17; refine (HX.out.entries 100 hel (by omega)).mono ?_; rintro e w6 ⟨v, rfl, hE, h⟩; obtain ⟨p6, cp6, rfl, _, _⟩ := row_any hE.row; obtain ⟨g1, g2, g3⟩ := cells3 h.blk; have HE := Lib.hid hE; have HY := Lib.hid h; clear h hE))
        have HYd := Lib.hid (HY.out.like (W' := w6.drew) ⟨rfl, rfl, rfl, rfl⟩)
        have HEd : RowKit.Hid (w6.drew.ownsRow 0 47 2 (.slice p6 (eachT st1 0).length cp6) (eachT st1 0).length (entL (eachT st1 0))) := Lib.hid HE.out.row
        refine wp_region_still_head 40 (by kernel_rfl) (by kernel_rfl) ?_
        simp only [List.take_succ_cons, List.take_zero]
        repeat still_step
        still_call (HYd.out.uses1' nn)
        repeat still_step
        still_call (HYd.out.uses2' nn)
        repeat still_step
        still_call HYd.out.len1'
        repeat still_step
        still_call (HYd.out.len2' (by omega))
        repeat still_step
        refine wpStill_nil ?_
        refine wpAny_take (i := 41) (v := ?_) rfl (by kernel_rfl) (by kernel_rfl) (by kernel_rfl) (fun _ _ _ h => h) (Or.inl ⟨by rfl, ?_⟩) ?_
        rotate_left
        · intro w
          go_simp
          all_goals with_reducible rfl
        refine wpAny_take (i := 42) (v := ?_) rfl (by kernel_rfl) (by kernel_rfl) (by kernel_rfl) (fun _ _ _ h => h) (Or.inl ⟨by rfl, ?_⟩) ?_
        rotate_left
        · intro w
          go_simp
          all_goals with_reducible rfl
        refine wpAny_ready (rs := [43]) (by kernel_rfl) (by simp) ?_
        refine AllReady.cons rfl (fun K hK => ?_) AllReady.nil
        go_simp
        go_wp2_with (first | (go_at_call 23; refine ((HY.out.like (by exact ⟨rfl, rfl, rfl, rfl⟩)).each2 (by omega)).mono ?_; rintro e w7 ⟨v7, rfl, hE7, h⟩; obtain ⟨p7, cp7, rfl, _, _⟩ := row_any hE7.row; have HE7 := Lib.hid hE7; have H7 := Lib.hid h; clear hE7 h))
        first | (refine hK _ _ ?_; clear hK K) | skip
        refine wpAny_ready (rs := [44]) (by kernel_rfl) (by simp) ?_
        refine AllReady.cons rfl (fun K hK => ?_) AllReady.nil
        go_simp
        go_wp2_with (first | (go_at_call 22; refine (sameE_any _ _ (eachT st1 0) _ (by exact rowkeep HEd.out HE7.out.bel) (by exact HE7.out.row) (by omega)).mono ?_; rintro e w8 ⟨rfl, n8, rfl⟩))
        first | (refine hK _ _ ?_; clear hK K) | skip
        refine wpAny_take (i := 45) (v := ?_) rfl (by kernel_rfl) (by kernel_rfl) (by kernel_rfl) (fun _ _ _ h => h) (Or.inl ⟨by rfl, ?_⟩) ?_
        rotate_left
        · intro w
          go_simp
          all_goals with_reducible rfl
        refine wpAny_take (i := 46) (v := ?_) rfl (by kernel_rfl) (by kernel_rfl) (by kernel_rfl) (fun _ _ _ h => h) (Or.inl ⟨by rfl, ?_⟩) ?_
        rotate_left
        · intro w
          go_simp
          all_goals with_reducible rfl
        refine wpAny_done (by kernel_rfl) ?_ _
        all_goals
          go_wp2
          go_roundw
          case rel => exact ⟨k + 1, st1, by omega, by go_num, Lib.hid ⟨H7.out.off.like (by exact ⟨rfl, rfl, rfl, rfl⟩), HU1.out, HL1.out⟩⟩
          case measure => simp [intOf]; omega
    · obtain rfl : k = l.length := by omega
      go_wp2
      go_ret
      exact ⟨rfl, H.out.1.bel⟩
end Go.Proofs.Ytobelhfhciafcaa
