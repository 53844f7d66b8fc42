/-
  The walks of the reference's functions of layer 1: they answer what package spell's do. No condition.
-/
import Derived.Test.YtkcnbdlhggoojaaDoorSpC
namespace Go.Proofs.YtkcnbdlhggoojaaDoor
open Go.RowKit

set_option maxHeartbeats 400000 in
theorem rlow_any (c : UInt8) (w : World) :
    Calls Tryd.prog 51 #[.int .u8 c.toNat] w fun e w' => e = .returned (.bool (lowB c)) ∧ w = w' := by
  unfold lowB
  go_enter Tryd.func51, Tryd.ntmps51
  go_wp2
  all_goals go_ret
  all_goals (simp_all; try omega)
set_option maxHeartbeats 400000 in
theorem rupp_any (c : UInt8) (w : World) :
    Calls Tryd.prog 64 #[.int .u8 c.toNat] w fun e w' => e = .returned (.bool (uppB c)) ∧ w = w' := by
  unfold uppB
  go_enter Tryd.func64, Tryd.ntmps64
  go_wp2
  all_goals go_ret
  all_goals (simp_all; try omega)
set_option maxHeartbeats 400000 in
theorem rdig_any (c : UInt8) (w : World) :
    Calls Tryd.prog 65 #[.int .u8 c.toNat] w fun e w' => e = .returned (.bool (digB c)) ∧ w = w' := by
  unfold digB
  go_enter Tryd.func65, Tryd.ntmps65
  go_wp2
  all_goals go_ret
  all_goals (simp_all; try omega)

set_option maxHeartbeats 400000 in
theorem rwords_any (w : World) :
    Calls Tryd.prog 75 #[] w fun e w' => e = .returned (.slice (some ⟨w.heap.size, 0, none⟩) 8 8) ∧ wordsW w = w' := by
  go_enter Tryd.func75, Tryd.ntmps75
  go_wp2
  go_ret
  exact ⟨by rfl, by rfl⟩

theorem resB_iff (s : ByteArray) : resB s = true ↔ s ∈ wordsL := Lib.containsS_iff _ _
theorem resB_hit (s : ByteArray) (k : Nat) (hk : k < 8) (h : s = wordsL.getD k ByteArray.empty) : resB s = true := by
  rw [resB_iff, h]
  have hl : k < wordsL.length := hk
  simp only [List.getD, List.getElem?_eq_getElem hl, Option.getD_some]
  exact List.getElem_mem hl
theorem ba_ext {x y : ByteArray} (h : x.toList = y.toList) : x = y := by
  rw [ByteArray.toList_eq, ByteArray.toList_eq] at h
  obtain ⟨⟨x⟩⟩ := x
  obtain ⟨⟨y⟩⟩ := y
  simpa using h
theorem resB_miss (s : ByteArray) (h : ∀ j, j < 8 → s ≠ wordsL.getD j ByteArray.empty) : resB s = false := by
  rw [Bool.eq_false_iff]
  intro hr
  rw [resB_iff] at hr
  obtain ⟨j, hj, he⟩ := List.getElem_of_mem hr
  exact h j hj (by rw [← he]; simp [List.getD, hj])

set_option maxHeartbeats 400000 in
theorem rres_any (s : ByteArray) (w : World) :
    Calls Tryd.prog 63 #[.string s] w fun e w' => e = .returned (.bool (resB s)) ∧ Bel w w' := by
  have hw := Lib.hid (words_cells w)
  have hbel : Bel w (wordsW w) := by unfold wordsW; exact Below.alloc (Below.refl _ _) (Nat.le_refl _) _
  go_enter Tryd.func63, Tryd.ntmps63
  go_wp2_with (go_at_call 75; refine (rwords_any _).mono ?_; rintro e w' ⟨rfl, rfl⟩)
  go_loop [4] (fun i => ∃ k : Nat, k ≤ 8 ∧ i = .int .i64 k ∧ RowKit.Hid (∀ j, j < k → s ≠ wordsL.getD j ByteArray.empty)) (fun i => 8 - (intOf i).toNat)
  case atStart => exact ⟨0, Nat.zero_le _, rfl, Lib.hid (by simp)⟩
  case round =>
    obtain ⟨k, hk, rfl, H⟩ := hrel
    by_cases hlt : k < 8
    · have hc := hw.out k hlt
      rw [Nat.zero_add] at hc
      generalize hx : wordsL.getD k ByteArray.empty = x at hc
      have HX := Lib.hid hx; clear hx
      by_cases h1 : x.toList = s.toList
      · have HN : RowKit.Hid (resB s = true) := Lib.hid (resB_hit s k hlt (by rw [HX.out]; exact (ba_ext h1).symm))
        go_wp2
        go_ret
        exact ⟨by rw [HN.out]; rfl, hbel⟩
      · have HN : RowKit.Hid (∀ j, j < k + 1 → s ≠ wordsL.getD j ByteArray.empty) := Lib.hid (fun j hj => by
          by_cases e : j = k
          · subst e; rw [HX.out]; exact fun e => h1 (by rw [e])
          · exact H.out j (by omega))
        have h1b : (x.toList == s.toList) = false := by simp [h1]
        go_wp2
        go_round
        case rel => exact ⟨k + 1, by omega, by go_num, HN⟩
        case measure => simp [intOf]; omega
    · obtain rfl : k = 8 := by omega
      have HN := Lib.hid (resB_miss s H.out)
      clear hlt
      go_wp2
      go_ret
      exact ⟨by rw [HN.out]; rfl, hbel⟩

theorem allB_cons (m : Bool) (c : UInt8) (r : List UInt8) : allB m (c :: r) = (latB m c && allB m r) := rfl
theorem rcon_spec (s : ByteArray) (h : 0 < s.size) (h2 : s.size ≤ 255) (h3 : ((s[0].toNat : Int) == 95) = false) : nameB smaB false s.data.toList = allB false s.data.toList := by
  rw [nameB_some _ _ _ h h2]
  obtain ⟨⟨l⟩⟩ := s
  cases l with
  | nil => simp [ByteArray.size] at h
  | cons c r =>
    have he : (ByteArray.extract ⟨⟨c :: r⟩⟩ 1 (ByteArray.size ⟨⟨c :: r⟩⟩)).data.toList = r := by
      rw [ByteArray.data_extract]; simp [ByteArray.size]
    rw [he]
    show (smaB c && allB false r) = allB false (c :: r)
    have h3' : ((c.toNat : Int) == 95) = false := h3
    have : latB false c = smaB c := by
      show (smaB c || ((c.toNat : Int) == 95) || (false && uppB c)) = _
      rw [h3']; simp
    rw [allB_cons, this]
theorem rcon_low (s : ByteArray) (h : 0 < s.size) (h2 : s.size ≤ 255) (h3 : ((s[0].toNat : Int) == 95) = true) : nameB smaB false s.data.toList = false := by
  rw [nameB_some _ _ _ h h2]
  have e : (s[0].toNat : Int) = 95 := by simpa using h3
  have : smaB s[0] = false := by simp [smaB, lowB, digB, e]
  rw [this]; rfl
theorem rvar_spec (s : ByteArray) (h : 0 < s.size) (h2 : s.size ≤ 255) (h3 : uppB s[0] = true) : nameB uppB true s.data.toList = allB true s.data.toList := by
  rw [nameB_some _ _ _ h h2]
  obtain ⟨⟨l⟩⟩ := s
  cases l with
  | nil => simp [ByteArray.size] at h
  | cons c r =>
    have he : (ByteArray.extract ⟨⟨c :: r⟩⟩ 1 (ByteArray.size ⟨⟨c :: r⟩⟩)).data.toList = r := by
      rw [ByteArray.data_extract]; simp [ByteArray.size]
    rw [he]
    show (uppB c && allB true r) = allB true (c :: r)
    have h3' : uppB c = true := h3
    rw [allB_cons]
    show _ = ((smaB c || ((c.toNat : Int) == 95) || (true && uppB c)) && _)
    rw [h3']; simp
theorem rvar_low (s : ByteArray) (h : 0 < s.size) (h2 : s.size ≤ 255) (h3 : uppB s[0] = false) : nameB uppB true s.data.toList = false := by
  rw [nameB_some _ _ _ h h2, h3]; rfl

set_option maxHeartbeats 1000000 in
theorem rcon_any (s : ByteArray) (w : World) (hs : s.size ≤ maxLen) :
    Calls Tryd.prog 62 #[.string s] w fun e w' => e = .returned (.bool (nameB smaB false s.data.toList)) ∧ w = w' := by
  unfold maxLen at hs
  by_cases h0 : s.size = 0
  · have HN := Lib.hid (nameB_nil smaB false s.data.toList (by simpa using h0))
    have h0' : (s.size : Int) < 1 := by omega
    clear h0
    go_enter Tryd.func62, Tryd.ntmps62
    go_wp2
    go_ret
    exact ⟨by rw [HN.out]; rfl, rfl⟩
  by_cases h1 : 255 < s.size
  · have HN := Lib.hid (nameB_long smaB false s.data.toList (by simpa using h1))
    go_enter Tryd.func62, Tryd.ntmps62
    go_wp2
    go_ret
    exact ⟨by rw [HN.out]; rfl, rfl⟩
  have h0' : 0 < s.size := by omega
  have h1' : s.size ≤ 255 := by omega
  clear h0 h1
  rcases Bool.eq_false_or_eq_true ((s[0].toNat : Int) == 95) with h2 | h2
  · have HN := Lib.hid (rcon_low s h0' h1' h2)
    go_enter Tryd.func62, Tryd.ntmps62
    go_wp2_with (first | (go_at_call 51; refine (rlow_any _ _).mono ?_; rintro e w' ⟨rfl, rfl⟩) | (go_at_call 64; refine (rupp_any _ _).mono ?_; rintro e w' ⟨rfl, rfl⟩) | (go_at_call 65; refine (rdig_any _ _).mono ?_; rintro e w' ⟨rfl, rfl⟩))
    go_ret
    exact ⟨by rw [HN.out]; rfl, rfl⟩
  · have HS := Lib.hid (rcon_spec s h0' h1' h2)
    go_enter Tryd.func62, Tryd.ntmps62
    go_wp2_with (first | (go_at_call 51; refine (rlow_any _ _).mono ?_; rintro e w' ⟨rfl, rfl⟩) | (go_at_call 64; refine (rupp_any _ _).mono ?_; rintro e w' ⟨rfl, rfl⟩) | (go_at_call 65; refine (rdig_any _ _).mono ?_; rintro e w' ⟨rfl, rfl⟩))
    clear h2
    go_loop [3] (fun i => ∃ k : Nat, k ≤ s.size ∧ i = .int .i64 k ∧ RowKit.Hid (allB false (s.data.toList.take k) = true)) (fun i => s.size - (intOf i).toNat)
    case atStart => exact ⟨0, Nat.zero_le _, rfl, Lib.hid rfl⟩
    case round =>
      obtain ⟨k, hk, rfl, H⟩ := hrel
      by_cases hlt : k < s.size
      · have hl : latB false s[k] = (lowB s[k] || digB s[k] || ((s[k].toNat : Int) == 95) || (false && uppB s[k])) := rfl
        have HL := Lib.hid hl; clear hl
        have h95 : ((s[k].toNat : Int) != 95) = !((s[k].toNat : Int) == 95) := rfl
        rcases Bool.eq_false_or_eq_true (lowB s[k]) with a1 | a1 <;> rcases Bool.eq_false_or_eq_true (uppB s[k]) with a2 | a2 <;> rcases Bool.eq_false_or_eq_true (digB s[k]) with a3 | a3 <;> rcases Bool.eq_false_or_eq_true ((s[k].toNat : Int) == 95) with a4 | a4 <;> rw [a4] at h95
        all_goals
          have HV := Lib.hid (HL.out.trans (by rw [a1, a2, a3, a4]))
          first
          | (have HN : RowKit.Hid (allB false (s.data.toList.take (k + 1)) = true) := Lib.hid (by rw [allB_snoc _ _ _ hlt, H.out, HV.out]; rfl)
             go_wp2_with (first | (go_at_call 51; refine (rlow_any _ _).mono ?_; rintro e w' ⟨rfl, rfl⟩) | (go_at_call 64; refine (rupp_any _ _).mono ?_; rintro e w' ⟨rfl, rfl⟩) | (go_at_call 65; refine (rdig_any _ _).mono ?_; rintro e w' ⟨rfl, rfl⟩))
             go_round
             case rel => exact ⟨k + 1, by omega, by go_num, HN⟩
             case measure => simp [intOf]; omega)
          | (have HN := Lib.hid (allB_not _ _ _ hlt (HV.out.trans rfl))
             go_wp2_with (first | (go_at_call 51; refine (rlow_any _ _).mono ?_; rintro e w' ⟨rfl, rfl⟩) | (go_at_call 64; refine (rupp_any _ _).mono ?_; rintro e w' ⟨rfl, rfl⟩) | (go_at_call 65; refine (rdig_any _ _).mono ?_; rintro e w' ⟨rfl, rfl⟩))
             go_ret
             exact ⟨by rw [HS.out, HN.out]; rfl, rfl⟩)
      · have HN : RowKit.Hid (allB false s.data.toList = true) := Lib.hid (by have := H.out; rwa [List.take_of_length_le (by simp; omega)] at this)
        go_wp2
        go_ret
        exact ⟨by rw [HS.out, HN.out]; rfl, rfl⟩

set_option maxHeartbeats 1000000 in
theorem rvar_any (s : ByteArray) (w : World) (hs : s.size ≤ maxLen) :
    Calls Tryd.prog 52 #[.string s] w fun e w' => e = .returned (.bool (nameB uppB true s.data.toList)) ∧ w = w' := by
  unfold maxLen at hs
  by_cases h0 : s.size = 0
  · have HN := Lib.hid (nameB_nil uppB true s.data.toList (by simpa using h0))
    have h0' : (s.size : Int) < 1 := by omega
    clear h0
    go_enter Tryd.func52, Tryd.ntmps52
    go_wp2
    go_ret
    exact ⟨by rw [HN.out]; rfl, rfl⟩
  by_cases h1 : 255 < s.size
  · have HN := Lib.hid (nameB_long uppB true s.data.toList (by simpa using h1))
    go_enter Tryd.func52, Tryd.ntmps52
    go_wp2
    go_ret
    exact ⟨by rw [HN.out]; rfl, rfl⟩
  have h0' : 0 < s.size := by omega
  have h1' : s.size ≤ 255 := by omega
  clear h0 h1
  rcases Bool.eq_false_or_eq_true (!uppB s[0]) with h2 | h2 <;> simp only [Bool.not_eq_true', Bool.not_eq_false'] at h2
  · have HN := Lib.hid (rvar_low s h0' h1' (by simpa using h2))
    go_enter Tryd.func52, Tryd.ntmps52
    go_wp2_with (first | (go_at_call 51; refine (rlow_any _ _).mono ?_; rintro e w' ⟨rfl, rfl⟩) | (go_at_call 64; refine (rupp_any _ _).mono ?_; rintro e w' ⟨rfl, rfl⟩) | (go_at_call 65; refine (rdig_any _ _).mono ?_; rintro e w' ⟨rfl, rfl⟩))
    go_ret
    exact ⟨by rw [HN.out]; rfl, rfl⟩
  · have HS := Lib.hid (rvar_spec s h0' h1' (by simpa using h2))
    go_enter Tryd.func52, Tryd.ntmps52
    go_wp2_with (first | (go_at_call 51; refine (rlow_any _ _).mono ?_; rintro e w' ⟨rfl, rfl⟩) | (go_at_call 64; refine (rupp_any _ _).mono ?_; rintro e w' ⟨rfl, rfl⟩) | (go_at_call 65; refine (rdig_any _ _).mono ?_; rintro e w' ⟨rfl, rfl⟩))
    clear h2
    go_loop [3] (fun i => ∃ k : Nat, k ≤ s.size ∧ i = .int .i64 k ∧ RowKit.Hid (allB true (s.data.toList.take k) = true)) (fun i => s.size - (intOf i).toNat)
    case atStart => exact ⟨0, Nat.zero_le _, rfl, Lib.hid rfl⟩
    case round =>
      obtain ⟨k, hk, rfl, H⟩ := hrel
      by_cases hlt : k < s.size
      · have hl : latB true s[k] = (lowB s[k] || digB s[k] || ((s[k].toNat : Int) == 95) || (true && uppB s[k])) := rfl
        have HL := Lib.hid hl; clear hl
        have h95 : ((s[k].toNat : Int) != 95) = !((s[k].toNat : Int) == 95) := rfl
        rcases Bool.eq_false_or_eq_true (lowB s[k]) with a1 | a1 <;> rcases Bool.eq_false_or_eq_true (uppB s[k]) with a2 | a2 <;> rcases Bool.eq_false_or_eq_true (digB s[k]) with a3 | a3 <;> rcases Bool.eq_false_or_eq_true ((s[k].toNat : Int) == 95) with a4 | a4 <;> rw [a4] at h95
        all_goals
          have HV := Lib.hid (HL.out.trans (by rw [a1, a2, a3, a4]))
          first
          | (have HN : RowKit.Hid (allB true (s.data.toList.take (k + 1)) = true) := Lib.hid (by rw [allB_snoc _ _ _ hlt, H.out, HV.out]; rfl)
             go_wp2_with (first | (go_at_call 51; refine (rlow_any _ _).mono ?_; rintro e w' ⟨rfl, rfl⟩) | (go_at_call 64; refine (rupp_any _ _).mono ?_; rintro e w' ⟨rfl, rfl⟩) | (go_at_call 65; refine (rdig_any _ _).mono ?_; rintro e w' ⟨rfl, rfl⟩))
             go_round
             case rel => exact ⟨k + 1, by omega, by go_num, HN⟩
             case measure => simp [intOf]; omega)
          | (have HN := Lib.hid (allB_not _ _ _ hlt (HV.out.trans rfl))
             go_wp2_with (first | (go_at_call 51; refine (rlow_any _ _).mono ?_; rintro e w' ⟨rfl, rfl⟩) | (go_at_call 64; refine (rupp_any _ _).mono ?_; rintro e w' ⟨rfl, rfl⟩) | (go_at_call 65; refine (rdig_any _ _).mono ?_; rintro e w' ⟨rfl, rfl⟩))
             go_ret
             exact ⟨by rw [HS.out, HN.out]; rfl, rfl⟩)
      · have HN : RowKit.Hid (allB true s.data.toList = true) := Lib.hid (by have := H.out; rwa [List.take_of_length_le (by simp; omega)] at this)
        go_wp2
        go_ret
        exact ⟨by rw [HS.out, HN.out]; rfl, rfl⟩
end Go.Proofs.YtkcnbdlhggoojaaDoor
