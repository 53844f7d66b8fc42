/-
  The walks of package spell's small functions, in plain mathematics: which bytes and which strings they allow. No condition. The walks of package spell's 'every' and 'spelled': which strings are names. No condition. The walks of package spell's words: Words, Reserved, and the names that are not reserved. Condition: internal/bytealg.MaxLen holds some int. The walks of the reference's functions of layer 1: they answer what package spell's do. No condition. The walks of the reference's Constant, Principal, Predicate, Variable of layer 1: they answer what package spell's do.
-/
import Derived.Test.YtamghlneoglfnaaRows
import Derived.WalkKit
import Derived.WalkSpells
import Derived.WalkLawsBesides
import Derived.Lib.Hide
import Derived.Lib.SlicesS
namespace Go.Proofs.Ytamghlneoglfnaa
open Go.RowKit

def lowB (c : UInt8) : Bool := decide (97 ≤ (c.toNat : Int)) && decide ((c.toNat : Int) ≤ 122)
def uppB (c : UInt8) : Bool := decide (65 ≤ (c.toNat : Int)) && decide ((c.toNat : Int) ≤ 90)
def digB (c : UInt8) : Bool := decide (48 ≤ (c.toNat : Int)) && decide ((c.toNat : Int) ≤ 57)
def smaB (c : UInt8) : Bool := lowB c || digB c
def latB (m : Bool) (c : UInt8) : Bool := smaB c || decide ((c.toNat : Int) = 95) || (m && uppB c)

end Go.Proofs.Ytamghlneoglfnaa
namespace Go.Proofs.Ytamghlneoglfnaa
open Go.RowKit

/-- nothing that was there has turned -/
abbrev Bel (w w' : World) : Prop := Below w.heap.size w w'
theorem Bel.trans' {a b c : World} (h : Bel a b) (k : Bel b c) : Bel a c := Below.trans h (Below.mono k h.size)

theorem take_snoc' (s : ByteArray) (k : Nat) (h : k < s.size) : s.data.toList.take (k + 1) = s.data.toList.take k ++ [s[k]] := by
  rw [List.take_succ_eq_append_getElem (by simpa using h)]; rfl
def allB (m : Bool) (l : List UInt8) : Bool := l.all (latB m)
theorem allB_snoc (m : Bool) (s : ByteArray) (k : Nat) (h : k < s.size) : allB m (s.data.toList.take (k + 1)) = (allB m (s.data.toList.take k) && latB m s[k]) := by
  rw [take_snoc' s k h]; simp [allB]
theorem allB_not (m : Bool) (s : ByteArray) (k : Nat) (h : k < s.size) (hp : latB m s[k] = false) : allB m s.data.toList = false := by
  unfold allB
  rw [List.all_eq_false]
  exact ⟨s[k], by simp [ByteArray.getElem_eq_getElem_data], by simp [hp]⟩

/-- which strings are names of a kind: the first byte, the length, the later bytes -/
def nameB (f : UInt8 → Bool) (m : Bool) (l : List UInt8) : Bool := match l with
  | [] => false
  | c :: r => decide (l.length ≤ 255) && (f c && allB m r)
theorem nameB_nil (f : UInt8 → Bool) (m : Bool) (l : List UInt8) (h : l.length = 0) : nameB f m l = false := by
  cases l with
  | nil => rfl
  | cons c r => simp at h
theorem nameB_long (f : UInt8 → Bool) (m : Bool) (l : List UInt8) (h : 255 < l.length) : nameB f m l = false := by
  cases l with
  | nil => rfl
  | cons c r => simp only [nameB, Bool.and_eq_false_iff, decide_eq_false_iff_not]; left; omega
theorem nameB_some (f : UInt8 → Bool) (m : Bool) (s : ByteArray) (h : 0 < s.size) (h2 : s.size ≤ 255) : nameB f m s.data.toList = (f s[0] && allB m (s.extract 1 s.size).data.toList) := by
  obtain ⟨⟨l⟩⟩ := s
  cases l with
  | nil => simp [ByteArray.size] at h
  | cons c r =>
    have hl : (c :: r).length ≤ 255 := by simpa [ByteArray.size] using h2
    have he : (ByteArray.extract ⟨⟨c :: r⟩⟩ 1 (ByteArray.size ⟨⟨c :: r⟩⟩)).data.toList = r := by
      rw [ByteArray.data_extract]; simp [ByteArray.size]
    show nameB f m (c :: r) = _
    rw [he]
    simp only [nameB, hl, decide_true, Bool.true_and]
    rfl


end Go.Proofs.Ytamghlneoglfnaa
namespace Go.Proofs.Ytamghlneoglfnaa
open Go.RowKit

/-- the reserved words, in order -/
def wordsL : List ByteArray := [⟨#[115, 97, 121, 115]⟩, ⟨#[105, 102]⟩, ⟨#[99, 97, 110, 115, 97, 121]⟩, ⟨#[112, 114, 105, 110, 99, 105, 112, 97, 108]⟩, ⟨#[112, 114, 101, 100]⟩, ⟨#[99, 108, 101, 97, 114]⟩, ⟨#[113, 117, 111, 116, 97]⟩, ⟨#[98, 117, 100, 103, 101, 116]⟩]
def resB (s : ByteArray) : Bool := Lib.containsS wordsL s
/-- the world behind Words -/
def wordsW (w : World) : World := w.alloc (.cells (wordsL.map Value.string).toArray 9)
/-- some int at MaxLen's cell -/
def MaxAt (w : World) : Prop := ∃ m : Int, w.cell? ⟨0, 0, none⟩ = some (.int .i64 m)

theorem words_cells (w : World) : ∀ j, j < wordsL.length → (wordsW w).cell? ⟨w.heap.size, 0 + j, none⟩ = some (.string (wordsL.getD j ByteArray.empty)) := by
  intro j hj
  unfold wordsW
  rw [cell_of_row _ _ _ _ _ _ (heap_alloc_new _ _)]
  have : j < 8 := hj
  match j, this with
  | 0, _ => rfl | 1, _ => rfl | 2, _ => rfl | 3, _ => rfl | 4, _ => rfl | 5, _ => rfl | 6, _ => rfl | 7, _ => rfl

def wordB (s : ByteArray) : Bool := nameB lowB false s.data.toList
def prinB (s : ByteArray) : Bool := wordB s && !resB s
def consB (s : ByteArray) : Bool := nameB smaB false s.data.toList && !resB s
def variB (s : ByteArray) : Bool := nameB uppB true s.data.toList

theorem MaxAt.bel {w w' : World} (h : MaxAt w) (hg : Bel w w') : MaxAt w' := by
  obtain ⟨m, hm⟩ := h
  exact ⟨m, cell_later hg hm⟩

end Go.Proofs.Ytamghlneoglfnaa
namespace Go.Proofs.Ytamghlneoglfnaa
open Go.RowKit

set_option maxHeartbeats 400000 in
theorem rlow_any (c : UInt8) (w : World) :
    Calls Try.prog 58 #[.int .u8 c.toNat] w fun e w' => e = .returned (.bool (lowB c)) ∧ w = w' := by
  unfold lowB
  go_enter Try.func58, Try.ntmps58
  go_wp2
  all_goals go_ret
  all_goals (simp_all; try omega)
set_option maxHeartbeats 400000 in
theorem rupp_any (c : UInt8) (w : World) :
    Calls Try.prog 78 #[.int .u8 c.toNat] w fun e w' => e = .returned (.bool (uppB c)) ∧ w = w' := by
  unfold uppB
  go_enter Try.func78, Try.ntmps78
  go_wp2
  all_goals go_ret
  all_goals (simp_all; try omega)
set_option maxHeartbeats 400000 in
theorem rdig_any (c : UInt8) (w : World) :
    Calls Try.prog 79 #[.int .u8 c.toNat] w fun e w' => e = .returned (.bool (digB c)) ∧ w = w' := by
  unfold digB
  go_enter Try.func79, Try.ntmps79
  go_wp2
  all_goals go_ret
  all_goals (simp_all; try omega)

set_option maxHeartbeats 400000 in
theorem rwords_any (w : World) :
    Calls Try.prog 88 #[] w fun e w' => e = .returned (.slice (some ⟨w.heap.size, 0, none⟩) 8 8) ∧ wordsW w = w' := by
  go_enter Try.func88, Try.ntmps88
  go_wp2
  go_ret
  exact ⟨by rfl, by rfl⟩

theorem resB_iff (s : ByteArray) : resB s = true ↔ s ∈ wordsL := Lib.containsS_iff _ _
theorem resB_hit (s : ByteArray) (k : Nat) (hk : k < 8) (h : s = wordsL.getD k ByteArray.empty) : resB s = true := by
  rw [resB_iff, h]
  have hl : k < wordsL.length := hk
  simp only [List.getD, List.getElem?_eq_getElem hl, Option.getD_some]
  exact List.getElem_mem hl
theorem ba_ext {x y : ByteArray} (h : x.toList = y.toList) : x = y := by
  rw [ByteArray.toList_eq, ByteArray.toList_eq] at h
  obtain ⟨⟨x⟩⟩ := x
  obtain ⟨⟨y⟩⟩ := y
  simpa using h
theorem resB_miss (s : ByteArray) (h : ∀ j, j < 8 → s ≠ wordsL.getD j ByteArray.empty) : resB s = false := by
  rw [Bool.eq_false_iff]
  intro hr
  rw [resB_iff] at hr
  obtain ⟨j, hj, he⟩ := List.getElem_of_mem hr
  exact h j hj (by rw [← he]; simp [List.getD, hj])

set_option maxHeartbeats 400000 in
theorem rres_any (s : ByteArray) (w : World) :
    Calls Try.prog 77 #[.string s] w fun e w' => e = .returned (.bool (resB s)) ∧ Bel w w' := by
  have hw := Lib.hid (words_cells w)
  have hbel : Bel w (wordsW w) := by unfold wordsW; exact Below.alloc (Below.refl _ _) (Nat.le_refl _) _
  go_enter Try.func77, Try.ntmps77
  go_wp2_with (go_at_call 88; refine (rwords_any _).mono ?_; rintro e w' ⟨rfl, rfl⟩)
  go_loop [4] (fun i => ∃ k : Nat, k ≤ 8 ∧ i = .int .i64 k ∧ RowKit.Hid (∀ j, j < k → s ≠ wordsL.getD j ByteArray.empty)) (fun i => 8 - (intOf i).toNat)
  case atStart => exact ⟨0, Nat.zero_le _, rfl, Lib.hid (by simp)⟩
  case round =>
    obtain ⟨k, hk, rfl, H⟩ := hrel
    by_cases hlt : k < 8
    · have hc := hw.out k hlt
      rw [Nat.zero_add] at hc
      generalize hx : wordsL.getD k ByteArray.empty = x at hc
      have HX := Lib.hid hx; clear hx
      by_cases h1 : x.toList = s.toList
      · have HN : RowKit.Hid (resB s = true) := Lib.hid (resB_hit s k hlt (by rw [HX.out]; exact (ba_ext h1).symm))
        go_wp2
        go_ret
        exact ⟨by rw [HN.out]; rfl, hbel⟩
      · have HN : RowKit.Hid (∀ j, j < k + 1 → s ≠ wordsL.getD j ByteArray.empty) := Lib.hid (fun j hj => by
          by_cases e : j = k
          · subst e; rw [HX.out]; exact fun e => h1 (by rw [e])
          · exact H.out j (by omega))
        have h1b : (x.toList == s.toList) = false := by simp [h1]
        go_wp2
        go_round
        case rel => exact ⟨k + 1, by omega, by go_num, HN⟩
        case measure => simp [intOf]; omega
    · obtain rfl : k = 8 := by omega
      have HN := Lib.hid (resB_miss s H.out)
      clear hlt
      go_wp2
      go_ret
      exact ⟨by rw [HN.out]; rfl, hbel⟩

theorem allB_cons (m : Bool) (c : UInt8) (r : List UInt8) : allB m (c :: r) = (latB m c && allB m r) := rfl
theorem rcon_spec (s : ByteArray) (h : 0 < s.size) (h2 : s.size ≤ 255) (h3 : ((s[0].toNat : Int) == 95) = false) : nameB smaB false s.data.toList = allB false s.data.toList := by
  rw [nameB_some _ _ _ h h2]
  obtain ⟨⟨l⟩⟩ := s
  cases l with
  | nil => simp [ByteArray.size] at h
  | cons c r =>
    have he : (ByteArray.extract ⟨⟨c :: r⟩⟩ 1 (ByteArray.size ⟨⟨c :: r⟩⟩)).data.toList = r := by
      rw [ByteArray.data_extract]; simp [ByteArray.size]
    rw [he]
    show (smaB c && allB false r) = allB false (c :: r)
    have h3' : ((c.toNat : Int) == 95) = false := h3
    have : latB false c = smaB c := by
      show (smaB c || ((c.toNat : Int) == 95) || (false && uppB c)) = _
      rw [h3']; simp
    rw [allB_cons, this]
theorem rcon_low (s : ByteArray) (h : 0 < s.size) (h2 : s.size ≤ 255) (h3 : ((s[0].toNat : Int) == 95) = true) : nameB smaB false s.data.toList = false := by
  rw [nameB_some _ _ _ h h2]
  have e : (s[0].toNat : Int) = 95 := by simpa using h3
  have : smaB s[0] = false := by simp [smaB, lowB, digB, e]
  rw [this]; rfl
theorem rvar_spec (s : ByteArray) (h : 0 < s.size) (h2 : s.size ≤ 255) (h3 : uppB s[0] = true) : nameB uppB true s.data.toList = allB true s.data.toList := by
  rw [nameB_some _ _ _ h h2]
  obtain ⟨⟨l⟩⟩ := s
  cases l with
  | nil => simp [ByteArray.size] at h
  | cons c r =>
    have he : (ByteArray.extract ⟨⟨c :: r⟩⟩ 1 (ByteArray.size ⟨⟨c :: r⟩⟩)).data.toList = r := by
      rw [ByteArray.data_extract]; simp [ByteArray.size]
    rw [he]
    show (uppB c && allB true r) = allB true (c :: r)
    have h3' : uppB c = true := h3
    rw [allB_cons]
    show _ = ((smaB c || ((c.toNat : Int) == 95) || (true && uppB c)) && _)
    rw [h3']; simp
theorem rvar_low (s : ByteArray) (h : 0 < s.size) (h2 : s.size ≤ 255) (h3 : uppB s[0] = false) : nameB uppB true s.data.toList = false := by
  rw [nameB_some _ _ _ h h2, h3]; rfl

set_option maxHeartbeats 1000000 in
theorem rcon_any (s : ByteArray) (w : World) (hs : s.size ≤ maxLen) :
    Calls Try.prog 76 #[.string s] w fun e w' => e = .returned (.bool (nameB smaB false s.data.toList)) ∧ w = w' := by
  unfold maxLen at hs
  by_cases h0 : s.size = 0
  · have HN := Lib.hid (nameB_nil smaB false s.data.toList (by simpa using h0))
    have h0' : (s.size : Int) < 1 := by omega
    clear h0
    go_enter Try.func76, Try.ntmps76
    go_wp2
    go_ret
    exact ⟨by rw [HN.out]; rfl, rfl⟩
  by_cases h1 : 255 < s.size
  · have HN := Lib.hid (nameB_long smaB false s.data.toList (by simpa using h1))
    go_enter Try.func76, Try.ntmps76
    go_wp2
    go_ret
    exact ⟨by rw [HN.out]; rfl, rfl⟩
  have h0' : 0 < s.size := by omega
  have h1' : s.size ≤ 255 := by omega
  clear h0 h1
  rcases Bool.eq_false_or_eq_true ((s[0].toNat : Int) == 95) with h2 | h2
  · have HN := Lib.hid (rcon_low s h0' h1' h2)
    go_enter Try.func76, Try.ntmps76
    go_wp2_with (first | (go_at_call 58; refine (rlow_any _ _).mono ?_; rintro e w' ⟨rfl, rfl⟩) | (go_at_call 78; refine (rupp_any _ _).mono ?_; rintro e w' ⟨rfl, rfl⟩) | (go_at_call 79; refine (rdig_any _ _).mono ?_; rintro e w' ⟨rfl, rfl⟩))
    go_ret
    exact ⟨by rw [HN.out]; rfl, rfl⟩
  · have HS := Lib.hid (rcon_spec s h0' h1' h2)
    go_enter Try.func76, Try.ntmps76
    go_wp2_with (first | (go_at_call 58; refine (rlow_any _ _).mono ?_; rintro e w' ⟨rfl, rfl⟩) | (go_at_call 78; refine (rupp_any _ _).mono ?_; rintro e w' ⟨rfl, rfl⟩) | (go_at_call 79; refine (rdig_any _ _).mono ?_; rintro e w' ⟨rfl, rfl⟩))
    clear h2
    go_loop [3] (fun i => ∃ k : Nat, k ≤ s.size ∧ i = .int .i64 k ∧ RowKit.Hid (allB false (s.data.toList.take k) = true)) (fun i => s.size - (intOf i).toNat)
    case atStart => exact ⟨0, Nat.zero_le _, rfl, Lib.hid rfl⟩
    case round =>
      obtain ⟨k, hk, rfl, H⟩ := hrel
      by_cases hlt : k < s.size
      · have hl : latB false s[k] = (lowB s[k] || digB s[k] || ((s[k].toNat : Int) == 95) || (false && uppB s[k])) := rfl
        have HL := Lib.hid hl; clear hl
        have h95 : ((s[k].toNat : Int) != 95) = !((s[k].toNat : Int) == 95) := rfl
        rcases Bool.eq_false_or_eq_true (lowB s[k]) with a1 | a1 <;> rcases Bool.eq_false_or_eq_true (uppB s[k]) with a2 | a2 <;> rcases Bool.eq_false_or_eq_true (digB s[k]) with a3 | a3 <;> rcases Bool.eq_false_or_eq_true ((s[k].toNat : Int) == 95) with a4 | a4 <;> rw [a4] at h95
        all_goals
          have HV := Lib.hid (HL.out.trans (by rw [a1, a2, a3, a4]))
          first
          | (have HN : RowKit.Hid (allB false (s.data.toList.take (k + 1)) = true) := Lib.hid (by rw [allB_snoc _ _ _ hlt, H.out, HV.out]; rfl)
             go_wp2_with (first | (go_at_call 58; refine (rlow_any _ _).mono ?_; rintro e w' ⟨rfl, rfl⟩) | (go_at_call 78; refine (rupp_any _ _).mono ?_; rintro e w' ⟨rfl, rfl⟩) | (go_at_call 79; refine (rdig_any _ _).mono ?_; rintro e w' ⟨rfl, rfl⟩))
             go_round
             case rel => exact ⟨k + 1, by omega, by go_num, HN⟩
             case measure => simp [intOf]; omega)
          | (have HN := Lib.hid (allB_not _ _ _ hlt (HV.out.trans rfl))
             go_wp2_with (first | (go_at_call 58; refine (rlow_any _ _).mono ?_; rintro e w' ⟨rfl, rfl⟩) | (go_at_call 78; refine (rupp_any _ _).mono ?_; rintro e w' ⟨rfl, rfl⟩) | (go_at_call 79; refine (rdig_any _ _).mono ?_; rintro e w' ⟨rfl, rfl⟩))
             go_ret
             exact ⟨by rw [HS.out, HN.out]; rfl, rfl⟩)
      · have HN : RowKit.Hid (allB false s.data.toList = true) := Lib.hid (by have := H.out; rwa [List.take_of_length_le (by simp; omega)] at this)
        go_wp2
        go_ret
        exact ⟨by rw [HS.out, HN.out]; rfl, rfl⟩

set_option maxHeartbeats 1000000 in
theorem rvar_any (s : ByteArray) (w : World) (hs : s.size ≤ maxLen) :
    Calls Try.prog 59 #[.string s] w fun e w' => e = .returned (.bool (nameB uppB true s.data.toList)) ∧ w = w' := by
  unfold maxLen at hs
  by_cases h0 : s.size = 0
  · have HN := Lib.hid (nameB_nil uppB true s.data.toList (by simpa using h0))
    have h0' : (s.size : Int) < 1 := by omega
    clear h0
    go_enter Try.func59, Try.ntmps59
    go_wp2
    go_ret
    exact ⟨by rw [HN.out]; rfl, rfl⟩
  by_cases h1 : 255 < s.size
  · have HN := Lib.hid (nameB_long uppB true s.data.toList (by simpa using h1))
    go_enter Try.func59, Try.ntmps59
    go_wp2
    go_ret
    exact ⟨by rw [HN.out]; rfl, rfl⟩
  have h0' : 0 < s.size := by omega
  have h1' : s.size ≤ 255 := by omega
  clear h0 h1
  rcases Bool.eq_false_or_eq_true (!uppB s[0]) with h2 | h2 <;> simp only [Bool.not_eq_true', Bool.not_eq_false'] at h2
  · have HN := Lib.hid (rvar_low s h0' h1' (by simpa using h2))
    go_enter Try.func59, Try.ntmps59
    go_wp2_with (first | (go_at_call 58; refine (rlow_any _ _).mono ?_; rintro e w' ⟨rfl, rfl⟩) | (go_at_call 78; refine (rupp_any _ _).mono ?_; rintro e w' ⟨rfl, rfl⟩) | (go_at_call 79; refine (rdig_any _ _).mono ?_; rintro e w' ⟨rfl, rfl⟩))
    go_ret
    exact ⟨by rw [HN.out]; rfl, rfl⟩
  · have HS := Lib.hid (rvar_spec s h0' h1' (by simpa using h2))
    go_enter Try.func59, Try.ntmps59
    go_wp2_with (first | (go_at_call 58; refine (rlow_any _ _).mono ?_; rintro e w' ⟨rfl, rfl⟩) | (go_at_call 78; refine (rupp_any _ _).mono ?_; rintro e w' ⟨rfl, rfl⟩) | (go_at_call 79; refine (rdig_any _ _).mono ?_; rintro e w' ⟨rfl, rfl⟩))
    clear h2
    go_loop [3] (fun i => ∃ k : Nat, k ≤ s.size ∧ i = .int .i64 k ∧ RowKit.Hid (allB true (s.data.toList.take k) = true)) (fun i => s.size - (intOf i).toNat)
    case atStart => exact ⟨0, Nat.zero_le _, rfl, Lib.hid rfl⟩
    case round =>
      obtain ⟨k, hk, rfl, H⟩ := hrel
      by_cases hlt : k < s.size
      · have hl : latB true s[k] = (lowB s[k] || digB s[k] || ((s[k].toNat : Int) == 95) || (true && uppB s[k])) := rfl
        have HL := Lib.hid hl; clear hl
        have h95 : ((s[k].toNat : Int) != 95) = !((s[k].toNat : Int) == 95) := rfl
        rcases Bool.eq_false_or_eq_true (lowB s[k]) with a1 | a1 <;> rcases Bool.eq_false_or_eq_true (uppB s[k]) with a2 | a2 <;> rcases Bool.eq_false_or_eq_true (digB s[k]) with a3 | a3 <;> rcases Bool.eq_false_or_eq_true ((s[k].toNat : Int) == 95) with a4 | a4 <;> rw [a4] at h95
        all_goals
          have HV := Lib.hid (HL.out.trans (by rw [a1, a2, a3, a4]))
          first
          | (have HN : RowKit.Hid (allB true (s.data.toList.take (k + 1)) = true) := Lib.hid (by rw [allB_snoc _ _ _ hlt, H.out, HV.out]; rfl)
             go_wp2_with (first | (go_at_call 58; refine (rlow_any _ _).mono ?_; rintro e w' ⟨rfl, rfl⟩) | (go_at_call 78; refine (rupp_any _ _).mono ?_; rintro e w' ⟨rfl, rfl⟩) | (go_at_call 79; refine (rdig_any _ _).mono ?_; rintro e w' ⟨rfl, rfl⟩))
             go_round
             case rel => exact ⟨k + 1, by omega, by go_num, HN⟩
             case measure => simp [intOf]; omega)
          | (have HN := Lib.hid (allB_not _ _ _ hlt (HV.out.trans rfl))
             go_wp2_with (first | (go_at_call 58; refine (rlow_any _ _).mono ?_; rintro e w' ⟨rfl, rfl⟩) | (go_at_call 78; refine (rupp_any _ _).mono ?_; rintro e w' ⟨rfl, rfl⟩) | (go_at_call 79; refine (rdig_any _ _).mono ?_; rintro e w' ⟨rfl, rfl⟩))
             go_ret
             exact ⟨by rw [HS.out, HN.out]; rfl, rfl⟩)
      · have HN : RowKit.Hid (allB true s.data.toList = true) := Lib.hid (by have := H.out; rwa [List.take_of_length_le (by simp; omega)] at this)
        go_wp2
        go_ret
        exact ⟨by rw [HS.out, HN.out]; rfl, rfl⟩
end Go.Proofs.Ytamghlneoglfnaa
namespace Go.Proofs.Ytamghlneoglfnaa
open Go.RowKit

set_option maxHeartbeats 400000 in
theorem rConstant_any (s : ByteArray) (w : World) (hs : s.size ≤ maxLen) :
    Calls Try.prog 57 #[.string s] w fun e w' => e = .returned (.bool (consB s)) ∧ Bel w w' := by
  have hd : consB s = (nameB smaB false s.data.toList && !resB s) := rfl
  have HD := Lib.hid hd; clear hd
  rcases Bool.eq_false_or_eq_true (nameB smaB false s.data.toList) with h1 | h1
  · go_enter Try.func57, Try.ntmps57
    go_wp2_with (first
      | (go_at_call 76; refine (rcon_any _ _ hs).mono ?_; rintro e w1 ⟨rfl, rfl⟩)
      | (go_at_call 77; refine (rres_any _ _).mono ?_; rintro e w2 ⟨rfl, hg2⟩))
    go_ret
    exact ⟨by rw [HD.out, h1]; simp, hg2⟩
  · go_enter Try.func57, Try.ntmps57
    go_wp2_with (go_at_call 76; refine (rcon_any _ _ hs).mono ?_; rintro e w1 ⟨rfl, rfl⟩)
    go_ret
    exact ⟨by rw [HD.out, h1]; rfl, Below.refl _ _⟩

theorem consB_size (s : ByteArray) (h : consB s = true) : 0 < s.size := by
  rcases Nat.eq_zero_or_pos s.size with h0 | h0
  · exfalso
    simp only [consB, nameB_nil smaB false s.data.toList (by simpa using h0)] at h
    cases h
  · exact h0
theorem prinB_cons (s : ByteArray) (h : 0 < s.size) : prinB s = (consB s && lowB s[0]) := by
  obtain ⟨⟨l⟩⟩ := s
  cases l with
  | nil => simp [ByteArray.size] at h
  | cons c r =>
    show (nameB lowB false (c :: r) && !resB _) = ((nameB smaB false (c :: r) && !resB _) && lowB c)
    have hs : smaB c = (lowB c || digB c) := rfl
    simp only [nameB, hs]
    cases lowB c <;> cases digB c <;> simp
theorem prinB_false (s : ByteArray) (h : consB s = false) : prinB s = false := by
  rcases Nat.eq_zero_or_pos s.size with h0 | h0
  · simp only [prinB, wordB, nameB_nil lowB false s.data.toList (by simpa using h0)]; rfl
  · rw [prinB_cons s h0, h]; rfl

set_option maxHeartbeats 400000 in
theorem rPrincipal_any (s : ByteArray) (w : World) (hs : s.size ≤ maxLen) :
    Calls Try.prog 44 #[.string s] w fun e w' => e = .returned (.bool (prinB s)) ∧ Bel w w' := by
  have hs' := hs
  unfold maxLen at hs'
  rcases Bool.eq_false_or_eq_true (consB s) with h1 | h1
  · have h0 := consB_size s h1
    have HD := Lib.hid (prinB_cons s h0)
    go_enter Try.func44, Try.ntmps44
    go_wp2_with (first
      | (go_at_call 57; refine (rConstant_any _ _ hs).mono ?_; rintro e w1 ⟨rfl, hg⟩)
      | (go_at_call 58; refine (rlow_any _ _).mono ?_; rintro e w2 ⟨rfl, rfl⟩))
    go_ret
    exact ⟨by rw [HD.out, h1]; simp, hg⟩
  · have HD := Lib.hid (prinB_false s h1)
    go_enter Try.func44, Try.ntmps44
    go_wp2_with (go_at_call 57; refine (rConstant_any _ _ hs).mono ?_; rintro e w1 ⟨rfl, hg⟩)
    go_ret
    exact ⟨by rw [HD.out]; rfl, hg⟩
set_option maxHeartbeats 400000 in
theorem rPredicate_any (s : ByteArray) (w : World) (hs : s.size ≤ maxLen) :
    Calls Try.prog 45 #[.string s] w fun e w' => e = .returned (.bool (prinB s)) ∧ Bel w w' := by
  go_enter Try.func45, Try.ntmps45
  go_wp2_with (go_at_call 44; refine (rPrincipal_any _ _ hs).mono ?_; rintro e w1 ⟨rfl, hg⟩)
  go_ret
  exact ⟨rfl, hg⟩
theorem rVariable_any (s : ByteArray) (w : World) (hs : s.size ≤ maxLen) :
    Calls Try.prog 59 #[.string s] w fun e w' => e = .returned (.bool (variB s)) ∧ w = w' := rvar_any s w hs

end Go.Proofs.Ytamghlneoglfnaa
