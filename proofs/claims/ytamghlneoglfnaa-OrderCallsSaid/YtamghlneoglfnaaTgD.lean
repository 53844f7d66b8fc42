/-
  The text of an atom: the project's and the reference's. Conditions: the strings of the atom have at most 1000 bytes. The chapter's example; lists of terms that a call writes out. Condition: the library's variable holds some int. The law TermMade for every input. Conditions: what came in lies as its parameters' types say; the library's variable holds some int.
-/
import Derived.Test.YtamghlneoglfnaaTgC
import Derived.Test.YtamghlneoglfnaaTgB
import Derived.Deep.RegionHeld
namespace Go.Proofs.Ytamghlneoglfnaa
open Go.RowKit

/-- the strings of an atom are short -/
structure AtomSm (a : AtomD) : Prop where
  says : a.says.size ≤ 1000
  pred : a.pred.size ≤ 1000
  t0 : a.t0.name.size ≤ 1000
  t1 : a.t1.name.size ≤ 1000
  t2 : a.t2.name.size ≤ 1000
  t3 : a.t3.name.size ≤ 1000
def nameL (l : List TermD) : List (List UInt8) := l.map (fun t => t.name.data.toList)
def argL (l : List TermD) : List UInt8 := if l.length = 0 then [] else 40 :: (Lib.join (nameL l) [44, 32] ++ [41])
def saidL (a : AtomD) : List UInt8 := a.pred.data.toList ++ argL ((argsD a).take (cntI a.n))
def textL (a : AtomD) : List UInt8 := a.says.data.toList ++ ([32, 115, 97, 121, 115, 32] ++ saidL a)
def saidD (a : AtomD) : ByteArray := ⟨(saidL a).toArray⟩
def textD (a : AtomD) : ByteArray := ⟨(textL a).toArray⟩
theorem ba_app (a b : ByteArray) : (a ++ b).data.toList = a.data.toList ++ b.data.toList := by simp [ByteArray.data_append]
theorem ba_extL {a b : ByteArray} (h : a.data.toList = b.data.toList) : a = b := by
  cases a; cases b
  congr 1
  exact Array.ext' h
theorem ret_str {a b : ByteArray} (h : a.data.toList = b.data.toList) : Ending.returned (.string a) = .returned (.string b) := by rw [ba_extL h]

theorem ba_lenL (a : ByteArray) : a.data.toList.length = a.size := Array.length_toList
theorem join_le (l : List TermD) (hl : l.length ≤ 4) (hs : ∀ t ∈ l, t.name.size ≤ 1000) : (Lib.join (nameL l) [44, 32]).length ≤ 4050 := by
  match l, hl, hs with
  | [], _, _ => simp [nameL, Lib.join, List.intercalate]
  | [x0], _, hs =>
    have h0 := hs x0 (by simp)
    rw [← ba_lenL] at h0
    simp [nameL, Lib.join, List.intercalate] at h0 ⊢
    omega
  | [x0, x1], _, hs =>
    have h0 := hs x0 (by simp)
    have h1 := hs x1 (by simp)
    rw [← ba_lenL] at h0 h1
    simp [nameL, Lib.join, List.intercalate, List.intersperse] at h0 h1 ⊢
    omega
  | [x0, x1, x2], _, hs =>
    have h0 := hs x0 (by simp)
    have h1 := hs x1 (by simp)
    have h2 := hs x2 (by simp)
    rw [← ba_lenL] at h0 h1 h2
    simp [nameL, Lib.join, List.intercalate, List.intersperse] at h0 h1 h2 ⊢
    omega
  | [x0, x1, x2, x3], _, hs =>
    have h0 := hs x0 (by simp)
    have h1 := hs x1 (by simp)
    have h2 := hs x2 (by simp)
    have h3 := hs x3 (by simp)
    rw [← ba_lenL] at h0 h1 h2 h3
    simp [nameL, Lib.join, List.intercalate, List.intersperse] at h0 h1 h2 h3 ⊢
    omega
  | _ :: _ :: _ :: _ :: _ :: _, h5, _ => simp at h5
theorem AtomSm.args {a : AtomD} (h : AtomSm a) : ∀ t ∈ argsD a, t.name.size ≤ 1000 := by
  intro t ht
  simp only [argsD, List.mem_cons, List.mem_nil_iff, or_false] at ht
  rcases ht with rfl | rfl | rfl | rfl
  · exact h.t0
  · exact h.t1
  · exact h.t2
  · exact h.t3
theorem first_len (a : AtomD) : ((argsD a).take (cntI a.n)).length = cntI a.n := by
  rw [List.length_take]; show min _ 4 = _; have := cntI_le a.n; omega
theorem said_le {a : AtomD} (h : AtomSm a) : (saidD a).size ≤ 5100 := by
  have h1 := join_le ((argsD a).take (cntI a.n)) (by rw [first_len]; exact cntI_le _) (fun t ht => h.args t (List.mem_of_mem_take ht))
  have h2 := h.pred
  have h2' := h2
  rw [← ba_lenL] at h2
  show (saidL a).toArray.size ≤ 5100
  rw [List.size_toArray]
  unfold saidL argL
  rw [List.length_append]
  split
  · simp; omega
  · simp only [List.length_cons, List.length_append, List.length_nil]; omega

set_option maxRecDepth 20000 in
set_option maxHeartbeats 8000000 in
theorem rsaid_any (a : AtomD) (w : World) (h : AtomSm a) :
    Calls Try.prog 56 #[.agg #[.string a.says, .string a.pred, .int .i64 a.n, .bool a.t0.v, .string a.t0.name, .bool a.t1.v, .string a.t1.name, .bool a.t2.v, .string a.t2.name, .bool a.t3.v, .string a.t3.name]] w fun e w' => e = .returned (.string (saidD a)) ∧ Bel w w' := by
  have hA := AtomAt.new w a
  have hb := bel_alloc w (.cells #[.string a.says, .string a.pred, .int .i64 a.n, .bool a.t0.v, .string a.t0.name, .bool a.t1.v, .string a.t1.name, .bool a.t2.v, .string a.t2.name, .bool a.t3.v, .string a.t3.name] 27)
  obtain ⟨h1, h2, h3, h4, h5, h6⟩ := h
  obtain ⟨k, hk, hk4⟩ : ∃ k, cntI a.n = k ∧ k ≤ 4 := ⟨_, rfl, cntI_le _⟩
  have HK := Lib.hid hk
  have HS : RowKit.Hid ((saidD a).data.toList = a.pred.data.toList ++ argL ((argsD a).take k)) := Lib.hid (by rw [← hk]; rfl)
  clear hk
  obtain rfl | rfl | rfl | rfl | rfl : k = 0 ∨ k = 1 ∨ k = 2 ∨ k = 3 ∨ k = 4 := by omega
  all_goals
    go_enter Try.func56, Try.ntmps56
    go_wp2
    refine wp_loop_rounds 5 ?_
    repeat any_goals (rw [rounds_succ]; go_wp2_with (go_at_call 75; refine (rCount_any _ _ _ _ _ _ _ _ _ _ _ _).mono ?_; rw [HK.out]; rintro e w1 ⟨rfl, hg⟩; have hA := hA.bel hg; obtain ⟨c0, c1, c2, c3, c4, c5, c6, c7, c8, c9, c10⟩ := hA.cells; have hb := hb.trans' hg; clear hg))
    all_goals go_ret
    all_goals
      refine ⟨ret_str ?_, hb⟩
      rw [HS.out]
      simp [argL, argsD, nameL, Lib.join, List.intercalate, List.intersperse, ba_app]
set_option maxHeartbeats 1000000 in
theorem rtext_any (a : AtomD) (w : World) (h : AtomSm a) :
    Calls Try.prog 43 #[.agg #[.string a.says, .string a.pred, .int .i64 a.n, .bool a.t0.v, .string a.t0.name, .bool a.t1.v, .string a.t1.name, .bool a.t2.v, .string a.t2.name, .bool a.t3.v, .string a.t3.name]] w fun e w' => e = .returned (.string (textD a)) ∧ Bel w w' := by
  have hA := AtomAt.new w a
  have hb := bel_alloc w (.cells #[.string a.says, .string a.pred, .int .i64 a.n, .bool a.t0.v, .string a.t0.name, .bool a.t1.v, .string a.t1.name, .bool a.t2.v, .string a.t2.name, .bool a.t3.v, .string a.t3.name] 27)
  have h1 := h.says
  have hsz := said_le h
  obtain ⟨q, hq⟩ : ∃ q, q = saidD a := ⟨_, rfl⟩
  have HQ := Lib.hid hq
  rw [← hq] at hsz
  clear hq
  have hA := hA.drew
  have hb := bel_drew' hb
  go_enter Try.func43, Try.ntmps43
  go_wp2
  go_region_held (fun w' => w'.cell? ⟨w.heap.size, 0, none⟩ = some (.string a.says) ∧ w'.cell? ⟨w.heap.size, 1, none⟩ = some (.string a.pred) ∧ w'.cell? ⟨w.heap.size, 2, none⟩ = some (.int .i64 a.n) ∧ w'.cell? ⟨w.heap.size, 3, none⟩ = some (.bool a.t0.v) ∧ w'.cell? ⟨w.heap.size, 4, none⟩ = some (.string a.t0.name) ∧ w'.cell? ⟨w.heap.size, 5, none⟩ = some (.bool a.t1.v) ∧ w'.cell? ⟨w.heap.size, 6, none⟩ = some (.string a.t1.name) ∧ w'.cell? ⟨w.heap.size, 7, none⟩ = some (.bool a.t2.v) ∧ w'.cell? ⟨w.heap.size, 8, none⟩ = some (.string a.t2.name) ∧ w'.cell? ⟨w.heap.size, 9, none⟩ = some (.bool a.t3.v) ∧ w'.cell? ⟨w.heap.size, 10, none⟩ = some (.string a.t3.name)) (exact hA.cells) ((go_at_call 56; refine (rsaid_any a _ h).mono ?_; rw [← HQ.out]; rintro e w2 ⟨rfl, hg⟩; have hA := hA.bel hg; have hb := hb.trans' hg; clear hg))
  all_goals go_wp2
  all_goals go_ret
  all_goals
    refine ⟨ret_str ?_, hb⟩
    rw [ba_app, ba_app, HQ.out]
    simp [textD, textL, saidD]

theorem join_any {w W : World} {A : Option Addr} {n c : Nat} {l : List ByteArray} (h : StrO w W (.slice A n c) l) (hn : n = l.length) (hl : l.length ≤ 1000) (sep : ByteArray) (hlen : (Lib.join (l.map (·.data.toList)) sep.data.toList).length ≤ 100000) :
    Calls Try.prog 55 #[.slice A n c, .string sep] W fun e w' => e = .returned (.string ⟨(Lib.join (l.map (·.data.toList)) sep.data.toList).toArray⟩) ∧ Bel W w' := by
  subst hn
  by_cases h0 : l.length = 0
  · obtain rfl : l = [] := List.eq_nil_of_length_eq_zero h0
    exact (Try.strings_Join_none A c sep W).mono fun e w' ⟨he, hw⟩ => ⟨he, hw ▸ Below.refl _ _⟩
  · obtain ⟨g, cap, e, ho, hlt, hcap, _⟩ := row_value h.row (by omega)
    injection e with e1 e2 e3
    subst e1 e3
    refine Try.strings_Join g 0 c l sep W (fun j x hx => ?_) hlt (by omega) hcap (by omega)
    have hj2 : (l.map Value.string)[j]? = some (.string x) := by rw [List.getElem?_map, hx]; rfl
    rw [Nat.zero_add]
    exact row_cell h.row ho hj2
theorem map_succ {l : List TermD} {k : Nat} {t : TermD} (h : l[k]? = some t) : (l.take (k + 1)).map (·.name) = (l.take k).map (·.name) ++ [t.name] := by
  rw [List.take_add_one, h, List.map_append]; rfl

set_option maxRecDepth 20000 in
set_option maxHeartbeats 2000000 in
theorem text_any (a : AtomD) (w : World) (h : AtomSm a) :
    Calls Try.prog 41 #[.agg #[.string a.says, .string a.pred, .int .i64 a.n, .bool a.t0.v, .string a.t0.name, .bool a.t1.v, .string a.t1.name, .bool a.t2.v, .string a.t2.name, .bool a.t3.v, .string a.t3.name]] w fun e w' => e = .returned (.string (textD a)) ∧ Bel w w' := by
  obtain ⟨i0, hi, hz0, hz1, hz2⟩ := info_str
  have hA := AtomAt.new w a
  have hb := bel_alloc w (.cells #[.string a.says, .string a.pred, .int .i64 a.n, .bool a.t0.v, .string a.t0.name, .bool a.t1.v, .string a.t1.name, .bool a.t2.v, .string a.t2.name, .bool a.t3.v, .string a.t3.name] 27)
  have h1 := h.says
  have h2 := h.pred
  obtain ⟨l, hl⟩ : ∃ l, l = (argsD a).take (cntI a.n) := ⟨_, rfl⟩
  have hll : l.length = cntI a.n := by rw [hl]; exact first_len a
  have hcl := cntI_le a.n
  have hj := join_le l (by omega) (fun t ht => h.args t (List.mem_of_mem_take (by rw [← hl]; exact ht)))
  have HX : RowKit.Hid ((textD a).data.toList = a.says.data.toList ++ ([32, 115, 97, 121, 115, 32] ++ (a.pred.data.toList ++ argL l))) := Lib.hid (by rw [hl]; rfl)
  have hT := hA.terms.take (cntI a.n)
  rw [← hl] at hT
  obtain ⟨k0, hk0⟩ : ∃ k0, k0 = cntI a.n := ⟨_, rfl⟩
  have HK := Lib.hid hk0
  rw [← hk0] at hcl hll
  have hc0 : (0 : Int) ≤ k0 := by omega
  have hc1 : (k0 : Int) ≤ 4 := by omega
  have HJ := Lib.hid hj
  clear hl hk0 h hj
  by_cases h0 : k0 = 0
  · subst h0
    go_enter Try.func41, Try.ntmps41
    go_wp2_with (go_at_call 54; refine (counted_any _ _ _ _ _ _ _ _ _ _ _ _).mono ?_; rw [← HK.out]; rintro e w1 ⟨rfl, hg⟩; have hb := hb.trans' hg; clear hg)
    go_ret
    refine ⟨ret_str ?_, hb⟩
    rw [HX.out, ba_app, ba_app]
    simp [argL, hll]
  have hne : ((k0 : Int) == 0) = false := by simp; omega
  go_enter Try.func41, Try.ntmps41
  go_wp2_with (go_at_call 54; refine (counted_any _ _ _ _ _ _ _ _ _ _ _ _).mono ?_; rw [← HK.out]; rintro e w1 ⟨rfl, hg⟩; have hA := hA.bel hg; obtain ⟨c0, c1, c2, c3, c4, c5, c6, c7, c8, c9, c10⟩ := hA.cells; have hT := hT.bel hg; have hb := hb.trans' hg; clear hg)
  have HT := Lib.hid hT
  have HB := Lib.hid hb
  clear hT hb hne c0 c1 c2 c3 c4 c5 c6 c7 c8 c9 c10
  go_loopw [4, 22] (fun a5 i wr => ∃ (k : Nat) (q : Option Addr) (c : Nat), k ≤ k0 ∧ i = .int .i64 k ∧ a5 = .slice q k c ∧ RowKit.Hid (StrO w1 wr (.slice q k c) ((l.take k).map (·.name)))) (fun _ i _ => k0 - (intOf i).toNat)
  case atStart => exact ⟨0, none, 0, Nat.zero_le _, rfl, rfl, Lib.hid (StrO.nil _ (Below.refl _ _))⟩
  case round =>
    obtain ⟨k, q, c, hk, rfl, rfl, H⟩ := hrel
    by_cases hlt : k < k0
    · obtain ⟨b, o, e, hbb, hc⟩ := (HT.out.bel H.out.bel).get (by omega)
      injection e with e
      injection e with e1 e2
      subst e1 e2
      obtain ⟨c1, c2⟩ := hc k (by omega)
      have HN := Lib.hid (map_succ (List.getElem?_eq_getElem (by omega : k < l.length)))
      clear hc hbb
      generalize l[k] = t at c1 c2 HN
      obtain ⟨tv, ts⟩ := t
      simp only at c1 c2
      have hq : (0 : Int) ≤ k := by omega
      have hq2 : (k : Int) < k0 := by omega
      have HKL := Lib.hid (show ((l.take k).map (·.name)).length = k by simp; omega)
      have hS := Lib.hid (H.out.bel' (bel_alloc wr (.cells #[.bool tv, .string ts] 24)))
      clear H
      go_wp2_with (at_builtin; refine wpList_append_mine _ rfl (.tmp 26) (.tmp 29) 48 rfl 9 i0 (.string ⟨#[]⟩) 1 16 Try.underlying48 hi hz0 hz1 hz2 rfl (by decide) (.slice q k c) k (((l.take k).map (·.name)).map Value.string) rfl (by have := hS.out.row; rw [HKL.out] at this; exact this.alloc _) _ 1 1 [.string ts] rfl rfl (new_one' (W := wr.alloc (.cells #[.bool tv, .string ts] 24)) (by simp)) str_one (by unfold maxLen; omega) (by omega) ?_; intro v2 w2 ho2 hf2 hn22; obtain ⟨g2, cap2, rfl, _, _, _, _⟩ := row_value ho2 (by omega); have HP := Lib.hid (StrO.push (p := ts) hS.out (by rw [HKL.out]; exact ho2) hf2 hn22); clear ho2 hf2 hn22)
      go_roundw
      case rel => exact ⟨k + 1, _, _, by omega, by go_num, rfl, Lib.hid (by rw [HN.out]; exact HP.out)⟩
      case measure => simp [intOf]; omega
    · obtain rfl : k = k0 := by omega
      have HF : RowKit.Hid ((l.take k).map (·.name) = l.map (·.name)) := Lib.hid (by rw [← hll, List.take_length])
      have HR : RowKit.Hid (StrO w1 wr (.slice q k c) (l.map (·.name))) := Lib.hid (by rw [← HF.out]; exact H.out)
      have HLN := Lib.hid (show k = (l.map (·.name)).length by simp; omega)
      have HML : RowKit.Hid ((l.map (·.name)).map (·.data.toList) = nameL l) := Lib.hid (by unfold nameL; rw [List.map_map]; rfl)
      have HBW := Lib.hid (HB.out.trans' HR.out.bel)
      obtain ⟨q5, hq5⟩ : ∃ q5 : ByteArray, q5 = ⟨(Lib.join (nameL l) [44, 32]).toArray⟩ := ⟨_, rfl⟩
      have HQ5 := Lib.hid hq5
      have hq6 : q5.size ≤ 5000 := by
        rw [hq5]; show (Lib.join (nameL l) [44, 32]).toArray.size ≤ 5000
        rw [List.size_toArray]; have := HJ.out; omega
      clear H hq5
      go_wp2_with (go_at_call 55; refine (join_any HR.out HLN.out (by have := HLN.out; omega) ⟨#[44, 32]⟩ (by rw [HML.out]; have := HJ.out; simp; omega)).mono ?_; rw [HML.out]; rintro e w2 ⟨he, hg⟩; have he2 := he.trans (congrArg (fun b => Ending.returned (.string b)) HQ5.out.symm); clear he; subst he2; have HBW := Lib.hid (HBW.out.trans' hg); clear hg)
      go_ret
      refine ⟨ret_str ?_, HBW.out⟩
      rw [HX.out, ba_app, ba_app, ba_app, ba_app, ba_app, HQ5.out]
      have hlz : ¬ l.length = 0 := by omega
      simp [argL, hlz]
end Go.Proofs.Ytamghlneoglfnaa
namespace Go.Proofs.Ytamghlneoglfnaa
open Go.RowKit

theorem AtomOk.sm {a : AtomD} (h : lightA a = true) : AtomSm a := by
  unfold lightA at h
  simp only [Bool.and_eq_true, decide_eq_true_eq] at h
  exact ⟨by omega, by omega, by omega, by omega, by omega, by omega⟩
theorem live1 : madeD ⟨#[97, 108, 105, 99, 101]⟩ ⟨#[112]⟩ [⟨false, ⟨#[97]⟩⟩, ⟨true, ⟨#[88]⟩⟩] = (storedD ⟨#[97, 108, 105, 99, 101]⟩ ⟨#[112]⟩ [⟨false, ⟨#[97]⟩⟩, ⟨true, ⟨#[88]⟩⟩], 0) := made_ok (by decide) (by decide +kernel)
theorem live2 : madeD ⟨#[98, 111, 98]⟩ ⟨#[111, 112, 101, 110]⟩ [] = (storedD ⟨#[98, 111, 98]⟩ ⟨#[111, 112, 101, 110]⟩ [], 0) := made_ok (by decide) (by decide +kernel)
theorem live1_text : textD (storedD ⟨#[97, 108, 105, 99, 101]⟩ ⟨#[112]⟩ [⟨false, ⟨#[97]⟩⟩, ⟨true, ⟨#[88]⟩⟩]) = ⟨#[97, 108, 105, 99, 101, 32, 115, 97, 121, 115, 32, 112, 40, 97, 44, 32, 88, 41]⟩ := by decide +kernel
theorem live2_text : textD (storedD ⟨#[98, 111, 98]⟩ ⟨#[111, 112, 101, 110]⟩ []) = ⟨#[98, 111, 98, 32, 115, 97, 121, 115, 32, 111, 112, 101, 110]⟩ := by decide +kernel
theorem live1_sm : AtomSm (storedD ⟨#[97, 108, 105, 99, 101]⟩ ⟨#[112]⟩ [⟨false, ⟨#[97]⟩⟩, ⟨true, ⟨#[88]⟩⟩]) := ⟨by decide, by decide, by decide, by decide, by decide, by decide⟩
theorem live2_sm : AtomSm (storedD ⟨#[98, 111, 98]⟩ ⟨#[111, 112, 101, 110]⟩ []) := ⟨by decide, by decide, by decide, by decide, by decide, by decide⟩

end Go.Proofs.Ytamghlneoglfnaa
namespace Go.Proofs.Ytamghlneoglfnaa
open Go.RowKit

theorem check_stored (s p : ByteArray) (l : List TermD) (hl : l.length ≤ 4) : checkD (storedD s p l) = if (prinB s && prinB p) = true then (if l.all termB = true then 0 else 3) else 3 := by
  have ht : ∀ t : TermD, eqT t t = true := fun t => (eqT_iff t t).2 rfl
  unfold checkD
  by_cases h : (prinB s && prinB p) = true
  · rw [if_pos h]
    have h' : (prinB (storedD s p l).says && prinB (storedD s p l).pred) = true := h
    rw [if_pos h']
    match l, hl with
    | [], _ => simp [storedD, argsD, cntI_0, zerosB, ht]
    | [x0], _ => simp [storedD, argsD, cntI_1, zerosB, ht]
    | [x0, x1], _ => simp [storedD, argsD, cntI_2, zerosB, ht]
    | [x0, x1, x2], _ => simp [storedD, argsD, cntI_3, zerosB, ht]
    | [x0, x1, x2, x3], _ => simp [storedD, argsD, cntI_4, zerosB]
    | _ :: _ :: _ :: _ :: _ :: _, h5 => simp at h5
  · rw [if_neg h]
    have h' : ¬ (prinB (storedD s p l).says && prinB (storedD s p l).pred) = true := h
    rw [if_neg h']
theorem stored_zero {s p : ByteArray} {l : List TermD} (hl : l.length ≤ 4) (h : checkD (storedD s p l) = 0) : (prinB s && prinB p) = true ∧ l.all termB = true := by
  rw [check_stored s p l hl] at h
  split at h
  · rename_i h1
    split at h
    · rename_i h2
      exact ⟨h1, h2⟩
    · cases h
  · cases h
theorem zero_take {s p : ByteArray} {l : List TermD} (hl : l.length ≤ 4) (h : checkD (storedD s p l) = 0) (k : Nat) : checkD (storedD s p (l.take k)) = 0 := by
  obtain ⟨h1, h2⟩ := stored_zero hl h
  rw [check_stored s p _ (by rw [List.length_take]; omega), if_pos h1, if_pos]
  rw [List.all_eq_true] at h2 ⊢
  exact fun t ht => h2 t (List.mem_of_mem_take ht)
theorem args_stored (s p : ByteArray) (l : List TermD) (hl : l.length ≤ 4) (k : Nat) (hk : k < l.length) : (argsD (storedD s p l))[k]? = some l[k] := by
  match l, hl with
  | [x0], _ => obtain rfl : k = 0 := by simp at hk; omega
               rfl
  | [x0, x1], _ =>
    obtain rfl | rfl : k = 0 ∨ k = 1 := by simp at hk; omega
    all_goals rfl
  | [x0, x1, x2], _ =>
    obtain rfl | rfl | rfl : k = 0 ∨ k = 1 ∨ k = 2 := by simp at hk; omega
    all_goals rfl
  | [x0, x1, x2, x3], _ =>
    obtain rfl | rfl | rfl | rfl : k = 0 ∨ k = 1 ∨ k = 2 ∨ k = 3 := by simp at hk; omega
    all_goals rfl
  | [], _ => simp at hk
  | _ :: _ :: _ :: _ :: _ :: _, h5 => simp at h5
def setN (a : AtomD) (n : Int) : AtomD := ⟨a.says, a.pred, n, a.t0, a.t1, a.t2, a.t3⟩
theorem made_less (s p : ByteArray) (l : List TermD) (h0 : 0 < l.length) (hl : l.length ≤ 4) : setArg (setN (storedD s p l) ((l.length - 1 : Nat) : Int)) (l.length - 1) zeroT = storedD s p (l.take (l.length - 1)) := by
  match l, hl with
  | [x0], _ => rfl
  | [x0, x1], _ => rfl
  | [x0, x1, x2], _ => rfl
  | [x0, x1, x2, x3], _ => rfl
  | [], _ => simp at h0
  | _ :: _ :: _ :: _ :: _ :: _, h5 => simp at h5
theorem store_n {w : World} {g : Nat} {a0 : AtomD} (h : AtomAt w g a0) (n : Int) : ∃ w3, (storeVar 3 ⟨g, 2, none⟩ (.int .i64 n)).run Try.prog w = .ok () w3 ∧ AtomAt w3 g (setN a0 n) ∧ Below g w w3 ∧ ∀ k, k ≠ g → w3.heap[k]? = w.heap[k]? := by
  have hst := run_storeCells_at Try.prog g 2 27 [.int .i64 n] 0 _ w h (by simp) (by intro v hv; simp at hv; subst hv; rfl)
  have hi : (Try.prog.info? 3).map (·.size) = some 1 := by kernel_rfl
  cases hq : Try.prog.info? 3 with
  | none => rw [hq] at hi; cases hi
  | some i0 =>
    have hz1 : i0.size = 1 := by rw [hq] at hi; simpa using hi
    have e : (storeVar 3 ⟨g, 2, none⟩ (.int .i64 n)).run Try.prog w = (storeCells ⟨g, 2, none⟩ [.int .i64 n] 0).run Try.prog w := by
      simp [storeVar, sizeOf, typeInfo, hq, Value.cells, hz1]
    refine ⟨_, e.trans hst, ?_, ⟨rfl, rfl, rfl, by simp [World.setRow], fun k hk => setRow_other w g k _ (by omega)⟩, fun k hk => setRow_other w g k _ hk⟩
    unfold AtomAt
    rw [setRow_heap w g _ _ 27 _ h]
    rfl
theorem wpList_store_n {ops : Array Oper} {rest : List Oper} {o : Oper} {a : Act} {w : World} {Q : Exit → Act → World → Prop} (hgd : o.guard = none) (x y : Operand) (ho : o.op = .store 3 x y) (g : Nat) (n : Int)
    (hx : a.eval x = .pointer (some ⟨g, 2, none⟩)) (hy : a.eval y = .int .i64 n) {a0 : AtomD} (hg : AtomAt w g a0)
    (h : ∀ w', AtomAt w' g (setN a0 n) → Below g w w' → (∀ k, k ≠ g → w'.heap[k]? = w.heap[k]?) → wpList Try.prog ops Q rest (a.put o.dst undef) w') : wpList Try.prog ops Q (o :: rest) a w := by
  obtain ⟨w3, hst, h1, h2, h3⟩ := store_n hg n
  refine wpList_plain hgd fun _ hK => ?_
  unfold Oper.wp execOp
  simp only [ho, hx, hy, Instr.storeAt, Instr.sureAddr, Sem.run_bind, Sem.run_pure, Result.andThen_ok, hst]
  exact hK _ _ (h w3 h1 h2 h3)
end Go.Proofs.Ytamghlneoglfnaa
