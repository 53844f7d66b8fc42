/-
  Which bindings are valid; an atom under bindings. Conditions: as each says.
-/
import Derived.Test.YtdmdefdiglpgaaaSbG
namespace Go.Proofs.Ytdmdefdiglpgaaa
open Go.RowKit

theorem err_asc {l : List BindD} (h : ¬ Asc l) : errB l = 15 := by unfold errB; rw [if_neg]; rw [checkB_iff]; exact fun k => h k.1
theorem err_bad {l : List BindD} {b : BindD} (hb : b ∈ l) (h : goodB l b = false) : errB l = 15 := by
  unfold errB
  rw [if_neg]
  unfold checkB
  rw [Bool.and_eq_true, List.all_eq_true]
  exact fun k => by have := k.2 b hb; rw [h] at this; cases this
theorem err_ok {l : List BindD} (h : Asc l) (k : (l.take l.length).all (goodB l) = true) : errB l = 0 := by
  unfold errB
  rw [if_pos]
  unfold checkB AscB
  rw [List.take_length] at k
  simp [h, k]
theorem good_emp {l : List BindD} {v : ByteArray} {tv : Bool} : goodB l ⟨v, tv, ⟨#[]⟩⟩ = false := by unfold goodB; simp [emp]
theorem good_const {l : List BindD} {v s : ByteArray} (h : s ≠ emp) : goodB l ⟨v, false, s⟩ = true := by unfold goodB; simp [h]
theorem good_var {l : List BindD} {v s : ByteArray} (h : s ≠ emp) : goodB l ⟨v, true, s⟩ = !(getB l s).isSome := by unfold goodB; simp [h]
theorem all_succ {α : Type} {l : List α} {f : α → Bool} {k : Nat} (h : k < l.length) (h1 : (l.take k).all f = true) (h2 : f l[k] = true) : (l.take (k + 1)).all f = true := by
  rw [List.take_add_one, List.getElem?_eq_getElem h, List.all_append, h1]; simp [h2]
theorem ne_emp {s : ByteArray} (h : s ≠ emp) : ¬ s.toList = [] := fun e => h ((toList_emp s).1 e)

set_option maxHeartbeats 4000000 in
theorem Check_any (A : Option Addr) (l : List BindD) (ca : Nat) (w : World) (hL : BL w A ca l) (hl : l.length ≤ 1000000) :
    Calls Try.prog 19 #[.slice A l.length ca] w fun e w' => e = .returned (.int .i64 (errB l)) ∧ Bel w w' := by
  have HL := Lib.hid hL
  clear hL
  by_cases hA : Asc l
  case neg =>
    have HE := Lib.hid (err_asc hA)
    go_enter Try.func19, Try.ntmps19
    go_wp2_with (go_at_call 49; refine (run_any A l ca _ HL.out hl).mono ?_; rintro e w1 ⟨⟨n, HN, rfl⟩, hg⟩; have hn : (n : Int) < l.length := (by have h1 := HN.out.1; have h2 := HN.out.2.2.1; have : n ≠ l.length := fun e => hA (by rwa [e, List.take_length] at h2); omega))
    go_ret
    exact ⟨ret_int HE.out.symm, hg⟩
  have HA := Lib.hid hA
  clear hA
  go_enter Try.func19, Try.ntmps19
  go_wp2_with (go_at_call 49; refine (run_any A l ca _ HL.out hl).mono ?_; rintro e w1 ⟨⟨n, HN, rfl⟩, hg⟩; obtain rfl : n = l.length := (by have h1 := HN.out.2.2.2; have h2 := HN.out.1; have : ¬ n < l.length := fun e => h1 e HA.out; omega))
  have HB0 := Lib.hid hg
  clear hg HN
  go_loopw [12] (fun i wr => ∃ k : Nat, k ≤ l.length ∧ i = .int .i64 k ∧ RowKit.Hid (Bel w wr) ∧ RowKit.Hid ((l.take k).all (goodB l) = true)) (fun i _ => l.length - (intOf i).toNat)
  case atStart => exact ⟨0, Nat.zero_le _, rfl, HB0, Lib.hid rfl⟩
  case round =>
    obtain ⟨k, hk, rfl, HB, HU⟩ := hrel
    by_cases hlt : k < l.length
    · obtain ⟨b, o, rfl, hbb, hc⟩ := bl_get (HL.out.bel HB.out) (by omega)
      obtain ⟨c1, c2, c3⟩ := hc k hlt
      have hq : (0 : Int) ≤ k := by omega
      have hq2 : (k : Int) < l.length := by omega
      have HS : RowKit.Hid (goodB l l[k] = true → (l.take (k + 1)).all (goodB l) = true) := Lib.hid (all_succ hlt HU.out)
      have HX : RowKit.Hid (goodB l l[k] = false → errB l = 15) := Lib.hid (err_bad (List.getElem_mem hlt))
      have HW := Lib.hid (HL.out.bel (HB.out.trans' (bel_alloc wr (.cells #[.string l[k].v, .bool l[k].t.v, .string l[k].t.name] 32))))
      have HB2 := Lib.hid (HB.out.trans' (bel_alloc wr (.cells #[.string l[k].v, .bool l[k].t.v, .string l[k].t.name] 32)))
      clear hc hbb
      generalize l[k] = x at c1 c2 c3 HS HX HW HB2
      obtain ⟨xv, tv, s⟩ := x
      simp only at c1 c2 c3 HW HB2
      by_cases hs : s = emp
      · subst hs
        have HE := Lib.hid (HX.out good_emp)
        unfold emp at *
        go_wp2
        go_ret
        exact ⟨ret_int HE.out.symm, HB2.out⟩
      · have hs2 := ne_emp hs
        have hs3 : s.toList.isEmpty = false := by simpa using hs2
        cases tv
        · have HN := Lib.hid (HS.out (good_const hs))
          clear hs
          go_wp2
          go_roundw
          case rel => exact ⟨k + 1, by omega, by go_num, HB2, HN⟩
          case measure => simp [intOf]; omega
        · rcases Bool.eq_false_or_eq_true (getB l s).isSome with hg | hg
          · have HE := Lib.hid (HX.out (by rw [good_var hs, hg]; rfl))
            clear hs
            go_wp2_with (go_at_call 42; refine (binds_any _ l l.length ca rfl s _ HW.out hl HA.out).mono ?_; rintro e w2 ⟨rfl, hg2⟩)
            go_ret
            exact ⟨ret_int HE.out.symm, HB2.out.trans' hg2⟩
          · have HN := Lib.hid (HS.out (by rw [good_var hs, hg]; rfl))
            clear hs
            go_wp2_with (go_at_call 42; refine (binds_any _ l l.length ca rfl s _ HW.out hl HA.out).mono ?_; rintro e w2 ⟨rfl, hg2⟩; have HG2 := Lib.hid (HB2.out.trans' hg2); clear hg2)
            go_roundw
            case rel => exact ⟨k + 1, by omega, by go_num, HG2, HN⟩
            case measure => simp [intOf]; omega
    · obtain rfl : k = l.length := by omega
      have HE := Lib.hid (err_ok HA.out HU.out)
      go_wp2
      go_ret
      exact ⟨ret_int HE.out.symm, HB.out⟩
end Go.Proofs.Ytdmdefdiglpgaaa
