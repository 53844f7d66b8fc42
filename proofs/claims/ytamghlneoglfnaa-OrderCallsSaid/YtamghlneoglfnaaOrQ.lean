/-
  Whether a list of atoms is ascending; where a text is, or would be. Conditions: as each says.
-/
import Derived.Test.YtamghlneoglfnaaOrP
namespace Go.Proofs.Ytamghlneoglfnaa
open Go.RowKit

def atomZ : AtomD := ⟨⟨#[]⟩, ⟨#[]⟩, 0, zeroT, zeroT, zeroT, zeroT⟩
theorem getD_at {l : List AtomD} {i : Nat} (h : i < l.length) : l.getD i atomZ = l[i] := by
  rw [List.getD_eq_getElem?_getD, List.getElem?_eq_getElem h]; rfl
theorem text_pos (a : AtomD) : ltS ⟨#[]⟩ (textD a) = true := by
  have h : (textD a).data.toList = a.says.data.toList ++ ([32, 115, 97, 121, 115, 32] ++ (a.pred.data.toList ++ argL ((argsD a).take (cntI a.n)))) := rfl
  unfold ltS
  rw [ByteArray.toList_eq, ByteArray.toList_eq, h]
  cases a.says.data.toList <;> rfl
/-- the text ahead of place k -/
def lastS (l : List AtomD) (k : Nat) : ByteArray := if k = 0 then ⟨#[]⟩ else textD (l.getD (k - 1) atomZ)
theorem last_succ {l : List AtomD} {k : Nat} (h : k < l.length) : lastS l (k + 1) = textD l[k] := by
  unfold lastS
  rw [if_neg (by omega), Nat.add_sub_cancel, getD_at h]
theorem asc_take {l : List AtomD} {k : Nat} (h : k < l.length) : AscA (l.take (k + 1)) ↔ AscA (l.take k) ∧ ltS (lastS l k) (textD l[k]) = true := by
  rw [List.take_add_one, List.getElem?_eq_getElem h, Option.toList_some, asc_appA]
  have h1 : AscA [l[k]] := asc_consA.2 ⟨by simp, asc_nilA⟩
  cases k with
  | zero =>
    have : ltS (lastS l 0) (textD l[0]) = true := text_pos _
    simp [this, h1]
  | succ k =>
    rw [last_succ (by omega)]
    have hk : k < (l.take (k + 1)).length := by rw [List.length_take]; omega
    have hm : l[k] ∈ l.take (k + 1) := by
      have := List.getElem_mem hk
      rwa [List.getElem_take] at this
    constructor
    · rintro ⟨a1, _, a3⟩
      exact ⟨a1, a3 _ hm _ (by simp)⟩
    · rintro ⟨a1, a2⟩
      refine ⟨a1, h1, fun x hx y hy => ?_⟩
      obtain rfl := List.mem_singleton.1 hy
      obtain ⟨j, hj, rfl⟩ := List.getElem_of_mem hx
      rw [List.getElem_take]
      rw [List.length_take] at hj
      rcases Nat.lt_or_ge j k with hlt | hge
      · have := List.pairwise_iff_getElem.1 a1 j k (by rw [List.length_take]; omega) hk hlt
        rw [List.getElem_take, List.getElem_take] at this
        exact ltA_trans this a2
      · have : j = k := by omega
        subst this; exact a2
theorem asc_no {l : List AtomD} {k : Nat} (h : k < l.length) (hn : ltS (lastS l k) (textD l[k]) = false) : ¬ AscA l := fun hA => by
  have := (asc_take h).1 (asc_subA hA (List.take_sublist _ _))
  rw [hn] at this; cases this.2
def isD (l : List AtomD) : Bool := decide (AscA l)
theorem isD_yes {l : List AtomD} (h : AscA l) : isD l = true := decide_eq_true h
theorem isD_no {l : List AtomD} (h : ¬ AscA l) : isD l = false := decide_eq_false h

set_option maxHeartbeats 4000000 in
theorem Is_any (A : Option Addr) (l : List AtomD) (n ca : Nat) (hn : l.length = n) (w : World) (hL : AL w A ca l) (hl : l.length ≤ 100000) (hs : SmA l) :
    Calls Try.prog 14 #[.slice A n ca] w fun e w' => e = .returned (.bool (isD l)) ∧ Bel w w' := by
  subst hn
  have HL := Lib.hid hL
  have HS := Lib.hid hs
  clear hL hs
  go_enter Try.func14, Try.ntmps14
  go_wp2
  go_loopw [3, 9] (fun s3 i wr => ∃ (k : Nat) (t : ByteArray), k ≤ l.length ∧ i = .int .i64 k ∧ s3 = .string t ∧ RowKit.Hid (t = lastS l k) ∧ RowKit.Hid (AscA (l.take k)) ∧ RowKit.Hid (Bel w wr)) (fun _ i _ => l.length - (intOf i).toNat)
  case atStart => exact ⟨0, _, Nat.zero_le _, rfl, rfl, Lib.hid rfl, Lib.hid asc_nilA, Lib.hid (Below.refl _ _)⟩
  case round =>
    obtain ⟨k, t, hk, rfl, rfl, HT, HU, HB⟩ := hrel
    by_cases hlt : k < l.length
    case neg =>
      obtain rfl : k = l.length := by omega
      have HE : RowKit.Hid (isD l = true) := Lib.hid (by have := HU.out; rw [List.take_length] at this; exact isD_yes this)
      go_wp2
      go_ret
      exact ⟨ret_bool HE.out.symm, HB.out⟩
    obtain ⟨b, o, rfl, hbb, hc⟩ := al_get (HL.out.bel HB.out) (by omega)
    obtain ⟨c0, c1, c2, c3, c4, c5, c6, c7, c8, c9, c10⟩ := hc k hlt
    have hq : (0 : Int) ≤ k := by omega
    have hq2 : (k : Int) < l.length := by omega
    have HX := Lib.hid (HS.out _ (List.getElem_mem hlt))
    have HY : RowKit.Hid (∀ r, ltS t (textD l[k]) = r → if r then AscA (l.take (k + 1)) ∧ textD l[k] = lastS l (k + 1) else isD l = false) := Lib.hid (fun r hr => by
      rw [HT.out] at hr
      cases r with
      | true => exact ⟨(asc_take hlt).2 ⟨HU.out, hr⟩, (last_succ hlt).symm⟩
      | false => exact isD_no (asc_no hlt hr))
    clear hc hbb
    generalize l[k] = x at c0 c1 c2 c3 c4 c5 c6 c7 c8 c9 c10 HX HY
    have HA := Lib.hid (bel_alloc wr (.cells #[.string x.says, .string x.pred, .int .i64 x.n, .bool x.t0.v, .string x.t0.name, .bool x.t1.v, .string x.t1.name, .bool x.t2.v, .string x.t2.name, .bool x.t3.v, .string x.t3.name] 27))
    have HP := Lib.hid (AtomAt.new wr x)
    obtain ⟨x0, x1, x2, x3, x4, x5, x6, x7, x8, x9, x10⟩ := HP.out.cells
    have HTX := Lib.hid (fun W => text_any x W HX.out)
    generalize textD x = tx at HTX HY
    cases hr : ltS t tx
    · have HE := HY.out _ hr
      have HE2 : RowKit.Hid (isD l = false) := Lib.hid HE
      clear HE
      cases hr2 : ltS tx t
      · have hr3 : (tx.toList == t.toList) = true := toList_eq (ltS_tri hr2 hr)
        have hr4 : Op.bytesLess tx.toList t.toList = false := hr2
        clear hr hr2
        go_wp2_with (go_at_call 41; refine (HTX.out _).mono ?_; rintro e w2 ⟨rfl, hg⟩; have HG := Lib.hid (HB.out.trans' (HA.out.trans' hg)); clear hg)
        go_ret
        exact ⟨ret_bool HE2.out.symm, HG.out⟩
      · have hr4 : Op.bytesLess tx.toList t.toList = true := hr2
        clear hr hr2
        go_wp2_with (go_at_call 41; refine (HTX.out _).mono ?_; rintro e w2 ⟨rfl, hg⟩; have HG := Lib.hid (HB.out.trans' (HA.out.trans' hg)); clear hg)
        go_ret
        exact ⟨ret_bool HE2.out.symm, HG.out⟩
    · have HE := HY.out _ hr
      have HE1 : RowKit.Hid (AscA (l.take (k + 1))) := Lib.hid HE.1
      have HE2 : RowKit.Hid (tx = lastS l (k + 1)) := Lib.hid HE.2
      have hr3 : (tx.toList == t.toList) = false := toList_ne (fun e => ltS_ne hr e.symm)
      have hr4 : Op.bytesLess tx.toList t.toList = false := ltS_asymm hr
      clear hr HE
      go_wp2_with (go_at_call 41; refine (HTX.out _).mono ?_; rintro e w2 ⟨rfl, hg⟩; have HG := Lib.hid (HB.out.trans' (HA.out.trans' hg)); clear hg)
      go_roundw
      case rel => exact ⟨k + 1, tx, by omega, by go_num, rfl, HE2, HE1, HG⟩
      case measure => simp [intOf]; omega

/-- where a text is found -/
structure FindD (l : List AtomD) (t : ByteArray) (i : Nat) (b : Bool) : Prop where
  le : i ≤ l.length
  hit : b = true → ∃ h : i < l.length, textD l[i] = t
  asc : AscA l → (∀ j (h : j < l.length), j < i → ltS (textD l[j]) t = true) ∧ (∀ j (h : j < l.length), i ≤ j → ltS (textD l[j]) t = false) ∧ (b = false → ∀ h : i < l.length, textD l[i] ≠ t)
set_option maxHeartbeats 4000000 in
theorem bsf_any (A : Option Addr) (l : List AtomD) (ca : Nat) (t : ByteArray) (w : World) (hL : AL w A ca l) (hl : l.length ≤ 100000) (hs : SmA l) :
    Calls Try.prog 52 #[.slice A l.length ca, .string t, .func (.func 42) #[] #[]] w fun e w' => (∃ (i : Nat) (b : Bool), RowKit.Hid (FindD l t i b) ∧ e = .returned (.tuple #[.int .i64 i, .bool b])) ∧ Bel w w' := by
  have HL := Lib.hid hL
  have HS := Lib.hid hs
  clear hL hs
  have hmono : AscA l → ∀ i j (hi : i < l.length) (hj : j < l.length), i ≤ j → ltS (textD l[j]) t = true → ltS (textD l[i]) t = true := fun hA i j hi hj hij h => by
    by_cases e : i = j
    · subst e; exact h
    · exact ltS_trans (List.pairwise_iff_getElem.1 hA i j hi hj (by omega)) h
  have HM := Lib.hid hmono
  clear hmono
  go_enter Try.func52, Try.ntmps52
  go_wp2
  go_loopw [9, 10] (fun s5 s6 wr => ∃ lo hi : Nat, s5 = .int .i64 lo ∧ s6 = .int .i64 hi ∧ lo ≤ hi ∧ hi ≤ l.length ∧ RowKit.Hid (Bel w wr) ∧ RowKit.Hid (AscA l → (∀ j (h : j < l.length), j < lo → ltS (textD l[j]) t = true) ∧ (∀ j (h : j < l.length), hi ≤ j → ltS (textD l[j]) t = false))) (fun s5 s6 _ => ((intOf s6) - (intOf s5)).toNat)
  case atStart => exact ⟨0, l.length, rfl, rfl, Nat.zero_le _, Nat.le_refl _, Lib.hid (Below.refl _ _), Lib.hid fun _ => ⟨fun t _ h => by omega, fun t h h2 => by omega⟩⟩
  case round =>
    obtain ⟨lo, hi, rfl, rfl, hlh, hhi, HB, HI⟩ := hrel
    by_cases hlt : lo < hi
    · have hmid : (lo + hi) / 2 < l.length := by omega
      obtain ⟨b, o, rfl, hb, hc⟩ := al_get (HL.out.bel HB.out) (by omega)
      obtain ⟨c0, c1, c2, c3, c4, c5, c6, c7, c8, c9, c10⟩ := hc _ hmid
      clear hc hb
      have q1 : (0 : Int) ≤ ((lo : Int) + (hi : Int)) / 2 := by omega
      have q2 : ((lo : Int) + (hi : Int)) / 2 < l.length := by omega
      have HX := Lib.hid (HS.out _ (List.getElem_mem hmid))
      have HY : RowKit.Hid (∀ r, ltS (textD l[(lo + hi) / 2]) t = r → if r then (AscA l → (∀ j (h : j < l.length), j < (lo + hi) / 2 + 1 → ltS (textD l[j]) t = true) ∧ (∀ j (h : j < l.length), hi ≤ j → ltS (textD l[j]) t = false)) else (AscA l → (∀ j (h : j < l.length), j < lo → ltS (textD l[j]) t = true) ∧ (∀ j (h : j < l.length), (lo + hi) / 2 ≤ j → ltS (textD l[j]) t = false))) := Lib.hid (fun r hr => by
        cases r with
        | true => exact fun hA => ⟨fun j h h2 => HM.out hA j ((lo + hi) / 2) h hmid (by omega) hr, (HI.out hA).2⟩
        | false => exact fun hA => ⟨(HI.out hA).1, fun j h h2 => by
            cases q : ltS (textD l[j]) t with
            | false => rfl
            | true => have := HM.out hA ((lo + hi) / 2) j hmid h h2 q; rw [hr] at this; cases this⟩)
      generalize l[(lo + hi) / 2] = x at c0 c1 c2 c3 c4 c5 c6 c7 c8 c9 c10 HX HY
      have HC := Lib.hid (fun W => against_any x t W HX.out)
      cases hr : ltS (textD x) t
      · have hr2 : decide (cmpS (textD x) t < 0) = false := decide_eq_false (fun h => by rw [cmpS_lt.1 h] at hr; cases hr)
        have HI2 := Lib.hid (HY.out _ hr)
        clear hr
        generalize cmpS (textD x) t = r at HC hr2
        have hr3 : ¬ r < 0 := of_decide_eq_false hr2
        go_wp2_with (go_at_call 42; refine (HC.out _).mono ?_; rintro e w' ⟨rfl, hg⟩; have HB := Lib.hid (HB.out.trans' hg); clear hg)
        go_roundw
        case rel => exact ⟨lo, (lo + hi) / 2, rfl, by rw [show ((lo : Int) + (hi : Int)) / 2 = (((lo + hi) / 2 : Nat) : Int) by omega], by omega, by omega, HB, HI2⟩
        case measure => simp [intOf]; omega
      · have hr2 : decide (cmpS (textD x) t < 0) = true := decide_eq_true (cmpS_lt.2 hr)
        have HI2 := Lib.hid (HY.out _ hr)
        clear hr
        generalize cmpS (textD x) t = r at HC hr2
        have hr3 : r < 0 := of_decide_eq_true hr2
        go_wp2_with (go_at_call 42; refine (HC.out _).mono ?_; rintro e w' ⟨rfl, hg⟩; have HB := Lib.hid (HB.out.trans' hg); clear hg)
        go_roundw
        case rel => exact ⟨(lo + hi) / 2 + 1, hi, by rw [show ((lo : Int) + (hi : Int)) / 2 + 1 = (((lo + hi) / 2 + 1 : Nat) : Int) by omega], rfl, by omega, by omega, HB, HI2⟩
        case measure => simp [intOf]; omega
    · obtain rfl : hi = lo := by omega
      by_cases hlt2 : hi < l.length
      · obtain ⟨b, o, rfl, hb, hc⟩ := al_get (HL.out.bel HB.out) (by omega)
        obtain ⟨c0, c1, c2, c3, c4, c5, c6, c7, c8, c9, c10⟩ := hc _ hlt2
        clear hc hb
        have q1 : (0 : Int) ≤ hi := by omega
        have q2 : (hi : Int) < l.length := by omega
        have HX := Lib.hid (HS.out _ (List.getElem_mem hlt2))
        have HY : RowKit.Hid (FindD l t hi (cmpS (textD l[hi]) t == 0)) := Lib.hid ⟨hhi, fun h => ⟨hlt2, cmpS_eq.1 (by simpa using h)⟩, fun hA => ⟨(HI.out hA).1, (HI.out hA).2, fun h _ e => by rw [cmpS_eq.2 e] at h; cases h⟩⟩
        generalize l[hi] = x at c0 c1 c2 c3 c4 c5 c6 c7 c8 c9 c10 HX HY
        have HC := Lib.hid (fun W => against_any x t W HX.out)
        generalize cmpS (textD x) t = r at HC HY
        go_wp2_with (go_at_call 42; refine (HC.out _).mono ?_; rintro e w' ⟨rfl, hg⟩; have HB := Lib.hid (HB.out.trans' hg); clear hg)
        all_goals go_ret2
        all_goals exact ⟨⟨hi, _, HY, rfl⟩, HB.out⟩
      · have HY : RowKit.Hid (FindD l t hi false) := Lib.hid ⟨hhi, fun h => (by cases h), fun hA => ⟨(HI.out hA).1, (HI.out hA).2, fun _ h => absurd h hlt2⟩⟩
        go_wp2
        all_goals go_ret2
        all_goals exact ⟨⟨hi, false, HY, rfl⟩, HB.out⟩
set_option maxHeartbeats 2000000 in
theorem find_any (A : Option Addr) (l : List AtomD) (n ca : Nat) (hn : l.length = n) (a : AtomD) (w : World) (hL : AL w A ca l) (hl : l.length ≤ 100000) (hs : SmA l) (ha : AtomSm a) :
    Calls Try.prog 38 #[.slice A n ca, .agg #[.string a.says, .string a.pred, .int .i64 a.n, .bool a.t0.v, .string a.t0.name, .bool a.t1.v, .string a.t1.name, .bool a.t2.v, .string a.t2.name, .bool a.t3.v, .string a.t3.name]] w fun e w' => (∃ (i : Nat) (b : Bool), RowKit.Hid (FindD l (textD a) i b) ∧ e = .returned (.tuple #[.int .i64 i, .bool b])) ∧ Bel w w' := by
  subst hn
  have HL := Lib.hid hL
  clear hL
  have hP := AtomAt.new w a
  have hb := bel_alloc w (.cells #[.string a.says, .string a.pred, .int .i64 a.n, .bool a.t0.v, .string a.t0.name, .bool a.t1.v, .string a.t1.name, .bool a.t2.v, .string a.t2.name, .bool a.t3.v, .string a.t3.name] 27)
  obtain ⟨c0, c1, c2, c3, c4, c5, c6, c7, c8, c9, c10⟩ := hP.cells
  have HT := Lib.hid (fun W => text_any a W ha)
  generalize textD a = t at HT ⊢
  go_enter Try.func38, Try.ntmps38
  go_wp2_with (fail)
  refine (HT.out _).mono ?_
  rintro e w1 ⟨rfl, hg⟩
  replace hb := hb.trans' hg
  clear hg
  go_wp2_with (fail)
  refine (bsf_any A l ca t _ (HL.out.bel hb) hl hs).mono ?_
  rintro e w2 ⟨⟨i, r, HF, rfl⟩, hg⟩
  go_wp2
  go_ret2
  exact ⟨⟨i, r, HF, rfl⟩, hb.trans' hg⟩
end Go.Proofs.Ytamghlneoglfnaa
