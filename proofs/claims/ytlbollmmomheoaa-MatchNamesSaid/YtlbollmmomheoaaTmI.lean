/-
  Whether an atom is ground. Conditions: as each says.
-/
import Derived.Test.YtlbollmmomheoaaTmF
namespace Go.Proofs.Ytlbollmmomheoaa
open Go.RowKit

set_option maxHeartbeats 400000 in
theorem ground1_any (v : Bool) (s : ByteArray) (w : World) :
    Calls Try.prog 82 #[.agg #[.bool v, .string s]] w fun e w' => e = .returned (.bool v) ∧ Bel w w' := by
  go_enter Try.func82, Try.ntmps82
  go_wp2
  go_ret
  exact ⟨rfl, bel_alloc _ _⟩
set_option maxHeartbeats 1000000 in
theorem if_any (A : Option Addr) (l : List TermD) (ca : Nat) (w : World) (h : TermsAt w A l) (hl : l.length ≤ 1000000) :
    Calls Try.prog 95 #[.slice A l.length ca, .func (.func 82) #[] #[]] w fun e w' => (∃ n : Int, RowKit.Hid (decide (n ≥ 0) = l.any (fun t => t.v)) ∧ e = .returned (.int .i64 n)) ∧ Bel w w' := by
  have HT := Lib.hid h
  clear h
  go_enter Try.func95, Try.ntmps95
  go_wp2
  go_loopw [8] (fun i wr => ∃ k : Nat, k ≤ l.length ∧ i = .int .i64 k ∧ RowKit.Hid (Bel w wr) ∧ RowKit.Hid ((l.take k).any (fun t => t.v) = false)) (fun i _ => l.length - (intOf i).toNat)
  case atStart => exact ⟨0, Nat.zero_le _, rfl, Lib.hid (Below.refl _ _), Lib.hid rfl⟩
  case round =>
    obtain ⟨k, hk, rfl, HB, HA⟩ := hrel
    by_cases hlt : k < l.length
    · obtain ⟨b, o, rfl, hb, hc⟩ := (HT.out.bel HB.out).get (by omega)
      obtain ⟨c1, c2⟩ := hc k hlt
      have hat : l[k]? = some l[k] := List.getElem?_eq_getElem hlt
      have HN : RowKit.Hid ((l.take (k + 1)).any (fun t => t.v) = l[k].v) := Lib.hid (by rw [List.take_add_one, hat, List.any_append, HA.out]; simp)
      have HF : RowKit.Hid (l[k].v = true → l.any (fun t => t.v) = true) := Lib.hid (fun hf => by
        rw [List.any_eq_true]
        exact ⟨l[k], List.getElem_mem hlt, by simp [hf]⟩)
      clear hat hb hc
      generalize l[k] = t at c1 c2 HN HF
      obtain ⟨v, s⟩ := t
      simp only at c1 c2
      have hq : (0 : Int) ≤ k := by omega
      have hq2 : (k : Int) < l.length := by omega
      cases v
      · go_wp2_with (go_at_call 82; refine (ground1_any _ _ _).mono ?_; rintro e w1 ⟨rfl, hg⟩; have HG := Lib.hid (HB.out.trans' hg); clear hg)
        go_roundw
        case rel => exact ⟨k + 1, by omega, by go_num, HG, Lib.hid HN.out⟩
        case measure => simp [intOf]; omega
      · have HX := Lib.hid (HF.out rfl)
        have hge : RowKit.Hid (decide ((k : Int) ≥ 0) = true) := Lib.hid (by simp)
        go_wp2_with (go_at_call 82; refine (ground1_any _ _ _).mono ?_; rintro e w1 ⟨rfl, hg⟩; have HG := Lib.hid (HB.out.trans' hg); clear hg)
        go_ret
        exact ⟨⟨_, Lib.hid (hge.out.trans HX.out.symm), rfl⟩, HG.out⟩
    · obtain rfl : k = l.length := by omega
      have HN : RowKit.Hid (l.any (fun t => t.v) = false) := Lib.hid (by have := HA.out; rwa [List.take_length] at this)
      go_wp2
      go_ret
      exact ⟨⟨_, Lib.hid (by rw [HN.out]; decide), rfl⟩, HB.out⟩
theorem cf_any (A : Option Addr) (l : List TermD) (k ca : Nat) (hk : l.length = k) (w : World) (h : TermsAt w A l) (hl : l.length ≤ 1000000) :
    Calls Try.prog 83 #[.slice A k ca, .func (.func 82) #[] #[]] w fun e w' => e = .returned (.bool (l.any (fun t => t.v))) ∧ Bel w w' := by
  subst hk
  go_enter Try.func83, Try.ntmps83
  go_wp2_with (go_at_call 95; refine (if_any _ l _ _ h hl).mono ?_; rintro e w1 ⟨⟨n, hn, rfl⟩, hg⟩)
  go_ret
  exact ⟨ret_bool hn.out, hg⟩
theorem ground_eq (a : AtomD) : groundD a = !(((argsD a).take (cntI a.n)).any (fun t => t.v)) := by
  unfold groundD cntD
  rw [List.not_any_eq_all_not]
theorem ground_any (a : AtomD) (w : World) :
    Calls Try.prog 66 #[.agg #[.string a.says, .string a.pred, .int .i64 a.n, .bool a.t0.v, .string a.t0.name, .bool a.t1.v, .string a.t1.name, .bool a.t2.v, .string a.t2.name, .bool a.t3.v, .string a.t3.name]] w fun e w' => e = .returned (.bool (groundD a)) ∧ Bel w w' := by
  have hA := AtomAt.new w a
  have hb := bel_alloc w (.cells #[.string a.says, .string a.pred, .int .i64 a.n, .bool a.t0.v, .string a.t0.name, .bool a.t1.v, .string a.t1.name, .bool a.t2.v, .string a.t2.name, .bool a.t3.v, .string a.t3.name] 43)
  have hc := cntI_le a.n
  have HL : RowKit.Hid (((argsD a).take (cntI a.n)).length = cntI a.n) := Lib.hid (by rw [List.length_take]; show min _ 4 = _; omega)
  have hc0 : (0 : Int) ≤ cntI a.n := by omega
  have hc1 : (cntI a.n : Int) ≤ 4 := by omega
  have HG := Lib.hid (ground_eq a)
  go_enter Try.func66, Try.ntmps66
  go_wp2_with (first | (go_at_call 84; refine (counted_any _ _ _ _ _ _ _ _ _ _ _ _).mono ?_; rintro e w1 ⟨rfl, hg⟩; have hA := hA.bel hg; have hb := hb.trans' hg; clear hg) | (go_at_call 83; refine (cf_any _ ((argsD a).take (cntI a.n)) _ _ HL.out _ (hA.terms.take _) (by rw [HL.out]; omega)).mono ?_; rintro e w1 ⟨rfl, hg⟩; have hb := hb.trans' hg; clear hg))
  go_ret
  exact ⟨ret_bool HG.out.symm, hb⟩
end Go.Proofs.Ytlbollmmomheoaa
