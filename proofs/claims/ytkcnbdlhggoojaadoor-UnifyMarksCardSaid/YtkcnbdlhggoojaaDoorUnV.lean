/-
  Reading a marked name: the walk. Conditions: as each says.
-/
import Derived.Test.YtkcnbdlhggoojaaDoorUnR
namespace Go.Proofs.YtkcnbdlhggoojaaDoor
open Go.RowKit

theorem bel_atoi {w w' : World} (h : w' = w ∨ ∃ t, w' = Lib.bytesWorld w 5 t) : Bel w w' := by
  rcases h with rfl | ⟨t, rfl⟩
  · exact Below.refl _ _
  · exact Lib.bytesWorld_below _ _ _
theorem lib_any (v : ByteArray) (n : Int) (h : Lib.lastIndexByte v 35 = n) (hs : v.size ≤ 1000000) (w : World) :
    Calls Tryd.prog 29 #[.string v, .int .u8 35] w fun e w' => e = .returned (.int .i64 n) ∧ Bel w w' := by
  refine (Tryd.strings_LastIndexByte v 35 (by omega) w).mono ?_
  rintro e w' ⟨rfl, rfl⟩
  exact ⟨by rw [h], Below.refl _ _⟩
theorem atoi_any (d : ByteArray) (n : Int) (h : Lib.atoiAll d.data.toList = .ok n) (hs : d.size ≤ 1000000) (w : World) :
    Calls Tryd.prog 30 #[.string d] w fun e w' => e = .returned (.tuple #[.int .i64 n, .nilIface]) ∧ Bel w w' := by
  refine (Tryd.strconv_Atoi_ok d (by omega) n h w).mono ?_
  rintro e w' ⟨rfl, hw⟩
  exact ⟨rfl, bel_atoi hw⟩
set_option maxRecDepth 20000 in
set_option maxHeartbeats 4000000 in
theorem Marked_yes (x : ByteArray) (i : Nat) (w : World) (h0 : 0 < x.size) (hxs : x.size ≤ 100000) (hi : i < 1000000000) (hI : ItoaAt w i) :
    Calls Tryd.prog 11 #[.string (x ++ tagD i)] w fun e w' => e = .returned (.tuple #[.string x, .int .i64 i, .bool true]) ∧ Bel w w' := by
  have HI := Lib.hid hI
  obtain ⟨d, hd⟩ : ∃ d : ByteArray, d = ⟨(Lib.decDigits i).toArray⟩ := ⟨_, rfl⟩
  obtain ⟨v, hv⟩ : ∃ v, v = x ++ tagD i := ⟨_, rfl⟩
  have hv2 : v = x ++ ((⟨#[35]⟩ : ByteArray) ++ d) := by rw [hv, hd]; rfl
  have hl1 := digits_len 8 i (by omega)
  have hl2 : d.size = (Lib.decDigits i).length := by rw [hd]; exact (ba_lenB _).symm
  have hds : d.size ≤ 9 := by omega
  have hvs : v.size = x.size + 1 + d.size := by
    rw [hv2, app_size, app_size]
    have : (⟨#[35]⟩ : ByteArray).size = 1 := rfl
    omega
  have HX1 : RowKit.Hid (v.extract (x.size + 1) (x.size + 1 + d.size) = d) := Lib.hid (by
    have := app_back x ⟨#[35]⟩ d
    rw [← hv2] at this
    have e1 : (⟨#[35]⟩ : ByteArray).size = 1 := rfl
    rw [e1] at this
    exact this)
  have HX0 : RowKit.Hid (v.extract 0 x.size = x) := Lib.hid (by rw [hv]; exact app_front x _)
  have hLB := Lib.hid (fun W => lib_any v (x.size : Int) (by rw [hv]; exact tag_sign x i) (by omega) W)
  have hAt := Lib.hid (fun W => atoi_any d (i : Int) (by rw [hd]; exact atoi_digits (by omega)) (by omega) W)
  have HD := Lib.hid hd
  have q1 : ¬ ((x.size : Int) < 1) := by omega
  have q2 : (x.size : Int) + 1 ≤ v.size := by omega
  have q3 : (0 : Int) ≤ (x.size : Int) + 1 := by omega
  have q4 : ¬ ((i : Int) < 0) := by omega
  have q5 : ¬ ((d.size : Int) > 9) := by omega
  have q6 : (x.size : Int) ≤ v.size := by omega
  rw [← hv]
  clear hv hv2 hd hl1 hl2 hI hi
  go_enter Tryd.func11, Tryd.ntmps11
  go_wp2_with (go_at_call 29; refine (hLB.out _).mono ?_; rintro e w1 ⟨rfl, hg⟩; have hb := hg; clear hg)
  rw [HX1.out]
  refine (hAt.out _).mono ?_
  rintro e w2 ⟨rfl, hg⟩
  have hb := hb.trans' hg
  clear hg
  have hqd : (d.toList != d.toList) = false := by simp
  have hqd2 : (d.toList == d.toList) = true := by simp
  go_wp2_with (go_at_call 28; refine (HI.out _ hb).mono ?_; rintro e w3 ⟨⟨s, HS, rfl⟩, hg⟩; obtain rfl : d = s := HD.out.trans HS.out.symm; have hb := hb.trans' hg; clear hg)
  rw [HX0.out]
  go_ret3
  exact ⟨rfl, hb⟩
/-- no mark: no sign behind a first byte -/
theorem Marked_bare (v : ByteArray) (n : Int) (w : World) (hs : v.size ≤ 1000000) (h : Lib.lastIndexByte v 35 = n) (hn : n < 1) :
    Calls Tryd.prog 11 #[.string v] w fun e w' => (∃ x k, e = .returned (.tuple #[.string x, .int .i64 k, .bool false])) ∧ Bel w w' := by
  have hLB := Lib.hid (fun W => lib_any v n h hs W)
  clear h
  go_enter Tryd.func11, Tryd.ntmps11
  go_wp2_with (go_at_call 29; refine (hLB.out _).mono ?_; rintro e w1 ⟨rfl, hg⟩; have hb := hg; clear hg)
  go_ret3
  exact ⟨⟨_, _, rfl⟩, hb⟩
/-- no mark: a number that is written otherwise -/
theorem Marked_zero (w : World) (hI : ItoaAt w 1) :
    Calls Tryd.prog 11 #[.string ⟨#[88, 35, 48, 49]⟩] w fun e w' => (∃ x k, e = .returned (.tuple #[.string x, .int .i64 k, .bool false])) ∧ Bel w w' := by
  have HI := Lib.hid hI
  clear hI
  have hLB := Lib.hid (fun W => lib_any ⟨#[88, 35, 48, 49]⟩ 1 (by decide +kernel) (by decide) W)
  have hAt := Lib.hid (fun W => atoi_any ⟨#[48, 49]⟩ 1 (by decide +kernel) (by decide) W)
  go_enter Tryd.func11, Tryd.ntmps11
  go_wp2_with (go_at_call 29; refine (hLB.out _).mono ?_; rintro e w1 ⟨rfl, hg⟩; have hb := hg; clear hg)
  rw [show (⟨#[88, 35, 48, 49]⟩ : ByteArray).extract 2 4 = ⟨#[48, 49]⟩ by decide +kernel]
  refine (hAt.out _).mono ?_
  rintro e w2 ⟨rfl, hg⟩
  have hb := hb.trans' hg
  clear hg
  have hsz : ((⟨#[48, 49]⟩ : ByteArray).size : Int) = 2 := by decide
  go_wp2_with (go_at_call 28; refine (HI.out _ hb).mono ?_; rintro e w3 ⟨⟨s, HS, rfl⟩, hg⟩; have hq : (s.toList != [48, 49]) = true := (by rw [HS.out]; decide +kernel); have hq2 : (s.toList == [48, 49]) = false := (by rw [HS.out]; decide +kernel); have hb := hb.trans' hg; clear hg)
  go_ret3
  exact ⟨⟨_, _, rfl⟩, hb⟩
/-- no mark: no digits -/
theorem Marked_none (w : World) (ev : Value) (hv : w.cell? ⟨1, 0, none⟩ = some ev) (hev : ev = .nilIface ∨ ∃ te pe, ev = .iface te pe) :
    Calls Tryd.prog 11 #[.string ⟨#[88, 35]⟩] w fun e w' => (∃ x k, e = .returned (.tuple #[.string x, .int .i64 k, .bool false])) ∧ Bel w w' := by
  have HV := Lib.hid hv
  have HE := Lib.hid hev
  clear hv hev
  have hLB := Lib.hid (fun W => lib_any ⟨#[88, 35]⟩ 1 (by decide +kernel) (by decide) W)
  have hAt := Lib.hid (fun W (hg : Bel w W) => Any.strconv_Atoi_syntax Tryd.laysC172 ⟨#[]⟩ (by decide) (by decide +kernel) ev W (cell_bel HV.out hg) HE.out)
  go_enter Tryd.func11, Tryd.ntmps11
  go_wp2_with (go_at_call 29; refine (hLB.out _).mono ?_; rintro e w1 ⟨rfl, hg⟩; have hb := hg; clear hg)
  refine (hAt.out _ hb).mono ?_
  rintro e w2 ⟨N, rfl, _, _, hg⟩
  have hb := hb.trans' hg
  clear hg
  go_wp2
  go_ret3
  exact ⟨⟨_, _, rfl⟩, hb⟩
end Go.Proofs.YtkcnbdlhggoojaaDoor
