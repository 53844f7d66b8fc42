/-
  All, and the chapter's examples. Conditions: as each says.
-/
import Derived.Test.YtlbollmmomheoaaMaE
import Derived.Test.YtlbollmmomheoaaAtA
import Derived.Test.YtlbollmmomheoaaSbN1
namespace Go.Proofs.Ytlbollmmomheoaa
open Go.RowKit

def says1 : ByteArray := ⟨#[97, 108, 105, 99, 101]⟩
def pr1 : ByteArray := ⟨#[112]⟩
theorem extR_eq {l m : List BindD} {p g : AtomD} {is : Bool} (h1 : eqBs (extR l p g).1 m = true) (h2 : (extR l p g).2 = is) : extR l p g = (m, is) := by
  have e1 : (extR l p g).1 = m := eqBs_iff h1
  exact Prod.ext e1 h2
def atP (cs : List UInt8) : AtomD := storedD says1 pr1 (cs.map byteD)
theorem live5_a : extR [] (atP [88, 88]) (atP [97, 97]) = ([⟨⟨#[88]⟩, ⟨false, ⟨#[97]⟩⟩⟩], true) := extR_eq (by decide +kernel) (by decide +kernel)
theorem live5_b : extR [] (atP [88, 88]) (atP [97, 98]) = ([], false) := extR_eq (by decide +kernel) (by decide +kernel)
/-- the statements' own helper A, at two names of one byte each -/
theorem kA2 (c d : UInt8) (w : World) : Calls Try.prog 32 #[.string says1, .string pr1, .slice (some ⟨w.heap.size, 0, none⟩) 2 2] (w.alloc (.cells #[.string ⟨#[c]⟩, .string ⟨#[d]⟩] 9)) fun e w' => (∃ q, RowKit.Hid (q = atP [c, d]) ∧ e = .returned (.agg #[.string q.says, .string q.pred, .int .i64 q.n, .bool q.t0.v, .string q.t0.name, .bool q.t1.v, .string q.t1.name, .bool q.t2.v, .string q.t2.name, .bool q.t3.v, .string q.t3.name])) ∧ Bel w w' := by
  refine (kA_any says1 pr1 (some ⟨w.heap.size, 0, none⟩) [c, d] 2 _ (listAt_lit w 9 #[.string ⟨#[c]⟩, .string ⟨#[d]⟩]) (by simp)).mono ?_
  rintro e w' ⟨h, hg⟩
  exact ⟨h, (bel_alloc _ _).trans' hg⟩
set_option maxRecDepth 20000 in
set_option maxHeartbeats 4000000 in
theorem lives5_any (w : World) : Calls Try.prog 31 #[] w fun e w' => e = .returned (.bool true) ∧ Bel w w' := by
  have hb : Bel w w := Below.refl _ _
  go_enter Try.func31, Try.ntmps31
  go_wp2_with (fail)
  refine (kA2 88 88 _).mono ?_
  rintro e w1 ⟨⟨a1, HA1, rfl⟩, hg⟩
  have hb := hb.trans' hg
  clear hg
  go_wp2_with (fail)
  refine (kA2 97 97 _).mono ?_
  rintro e w2 ⟨⟨a2, HA2, rfl⟩, hg⟩
  have hb := hb.trans' hg
  clear hg
  go_wp2_with (fail)
  refine (Match_any a1 a2 _).mono ?_
  rintro e w3 ⟨⟨q3, c3, o3, i3, HE3, HO3, rfl⟩, hg⟩
  have hb := hb.trans' hg
  clear hg
  have e3 : extR [] a1 a2 = ([⟨⟨#[88]⟩, ⟨false, ⟨#[97]⟩⟩⟩], true) := by rw [HA1.out, HA2.out]; exact live5_a
  obtain ⟨h3, rfl⟩ := Prod.mk.inj (HE3.out.trans e3)
  clear e3
  have H3 := Lib.hid h3
  clear h3
  have HL3 := Lib.hid (OwnL.slice EB HO3.out)
  go_wp2_with (fail)
  refine (kA2 88 88 _).mono ?_
  rintro e w4 ⟨⟨a4, HA4, rfl⟩, hg⟩
  have hb := hb.trans' hg
  have HL3 := Lib.hid (HL3.out.bel hg)
  clear hg
  go_wp2_with (fail)
  refine (kA2 97 98 _).mono ?_
  rintro e w5 ⟨⟨a5, HA5, rfl⟩, hg⟩
  have hb := hb.trans' hg
  have HL3 := Lib.hid (HL3.out.bel hg)
  clear hg
  go_wp2_with (fail)
  refine (Match_any a4 a5 _).mono ?_
  rintro e w6 ⟨⟨q6, c6, o6, i6, HE6, HO6, rfl⟩, hg⟩
  have hb := hb.trans' hg
  have HL3 := Lib.hid (HL3.out.bel hg)
  clear hg
  have e6 : extR [] a4 a5 = ([], false) := by rw [HA4.out, HA5.out]; exact live5_b
  obtain ⟨h6, rfl⟩ := Prod.mk.inj (HE6.out.trans e6)
  clear e6
  clear h6
  go_wp2_with (fail)
  refine (c_any _ _).mono ?_
  rintro e w7 ⟨rfl, hg⟩
  have hb := hb.trans' hg
  have HL3 := Lib.hid (HL3.out.bel hg)
  clear hg
  go_wp2_with (fail)
  have h1 : o3.length = 1 := by rw [H3.out]; rfl
  have hM : BL (w7.alloc (.cells #[.string ⟨#[88]⟩, .bool false, .string ⟨#[97]⟩] 32)) (some ⟨w7.heap.size, 0, none⟩) 1 o3 := by
    rw [H3.out]
    exact SliceAt.lit EB w7 32 [⟨⟨#[88]⟩, ⟨false, ⟨#[97]⟩⟩⟩] #[.string ⟨#[88]⟩, .bool false, .string ⟨#[97]⟩] rfl
  refine (sameB2_any q3 o3 o3.length c3 rfl _ o3 1 1 rfl h1 _ (HL3.out.bel (bel_alloc _ _)) hM (by omega)).mono ?_
  rintro e w8 ⟨rfl, hg⟩
  have hb := (hb.trans' (bel_alloc w7 (.cells #[.string ⟨#[88]⟩, .bool false, .string ⟨#[97]⟩] 32))).trans' hg
  clear hg h1 hM
  go_wp2
  go_ret
  exact ⟨rfl, hb⟩
theorem filter_succ {p : AtomD → Bool} {l : List AtomD} {k : Nat} {x : AtomD} (h : l[k]? = some x) : (l.take (k + 1)).filter p = (l.take k).filter p ++ (if p x then [x] else []) := by
  rw [List.take_add_one, h, List.filter_append]
  congr 1
  simp only [Option.toList, List.filter_cons, List.filter_nil]
theorem extR_snd (p g : AtomD) : (extR [] p g).2 = matchB p g := rfl
set_option maxRecDepth 20000 in
set_option maxHeartbeats 8000000 in
theorem All_any (p : AtomD) (A : Option Addr) (l : List AtomD) (n ca : Nat) (hn : l.length = n) (w : World) (hL : AL w A ca l) (hl : l.length ≤ 1000000) :
    Calls Try.prog 37 #[.agg #[.string p.says, .string p.pred, .int .i64 p.n, .bool p.t0.v, .string p.t0.name, .bool p.t1.v, .string p.t1.name, .bool p.t2.v, .string p.t2.name, .bool p.t3.v, .string p.t3.name], .slice A n ca] w fun e w' => (∃ q c out, RowKit.Hid (out = l.filter (matchB p)) ∧ RowKit.Hid (OA w w' q c out) ∧ e = .returned (.slice q out.length c)) ∧ Bel w w' := by
  subst hn
  have hb := bel_alloc w (.cells #[.string p.says, .string p.pred, .int .i64 p.n, .bool p.t0.v, .string p.t0.name, .bool p.t1.v, .string p.t1.name, .bool p.t2.v, .string p.t2.name, .bool p.t3.v, .string p.t3.name] 43)
  have HP := Lib.hid (AtomAt.new w p)
  have HL := Lib.hid (hL.bel hb)
  have HB := Lib.hid hb
  clear hL hb
  go_enter Try.func37, Try.ntmps37
  go_wp2
  go_loopw [5, 12] (fun s5 i wr => ∃ (k : Nat) (out : List AtomD) (q : Option Addr) (c : Nat), k ≤ l.length ∧ i = .int .i64 k ∧ s5 = .slice q out.length c ∧ out.length ≤ k ∧ RowKit.Hid (out = (l.take k).filter (matchB p) ∧ OA (w.alloc (.cells #[.string p.says, .string p.pred, .int .i64 p.n, .bool p.t0.v, .string p.t0.name, .bool p.t1.v, .string p.t1.name, .bool p.t2.v, .string p.t2.name, .bool p.t3.v, .string p.t3.name] 43)) wr q c out)) (fun _ i _ => l.length - (intOf i).toNat)
  case atStart => exact ⟨0, [], none, 0, Nat.zero_le _, rfl, rfl, Nat.le_refl _, Lib.hid ⟨rfl, OA.nil _ (Below.refl _ _)⟩⟩
  case round =>
    obtain ⟨k, out, q, c, hk, rfl, rfl, hol, H⟩ := hrel
    have HE := Lib.hid H.out.1
    have HO := Lib.hid H.out.2
    have HW : RowKit.Hid (Bel (w.alloc (.cells #[.string p.says, .string p.pred, .int .i64 p.n, .bool p.t0.v, .string p.t0.name, .bool p.t1.v, .string p.t1.name, .bool p.t2.v, .string p.t2.name, .bool p.t3.v, .string p.t3.name] 43)) wr) := Lib.hid HO.out.bel
    clear H
    by_cases hlt : k < l.length
    · obtain ⟨b, o, rfl, hbb, hc⟩ := al_get (HL.out.bel HW.out) (by omega)
      obtain ⟨c0, c1, c2, c3, c4, c5, c6, c7, c8, c9, c10⟩ := hc k hlt
      obtain ⟨d0, d1, d2, d3, d4, d5, d6, d7, d8, d9, d10⟩ := (HP.out.bel HW.out).cells
      have hpl := (HP.out.bel HW.out).lt
      have hq : (0 : Int) ≤ k := by omega
      have hq2 : (k : Int) < l.length := by omega
      have HS := Lib.hid (filter_succ (p := matchB p) (List.getElem?_eq_getElem hlt))
      clear hc hbb
      generalize l[k] = x at c0 c1 c2 c3 c4 c5 c6 c7 c8 c9 c10 HS
      have HX := Lib.hid (bel_alloc wr (.cells #[.string x.says, .string x.pred, .int .i64 x.n, .bool x.t0.v, .string x.t0.name, .bool x.t1.v, .string x.t1.name, .bool x.t2.v, .string x.t2.name, .bool x.t3.v, .string x.t3.name] 43))
      have HO1 := Lib.hid (HO.out.bel' HX.out)
      have HW1 := Lib.hid (HW.out.trans' HX.out)
      have HXA := Lib.hid (AtomAt.new wr x)
      have hM := Lib.hid (fun W => Match_any p x W)
      cases hm : matchB p x
      · have HN : RowKit.Hid ((l.take (k + 1)).filter (matchB p) = out) := Lib.hid (by rw [HS.out, ← HE.out, hm]; simp)
        have HR := Lib.hid ((extR_snd p x).trans hm)
        clear hm
        go_wp2_with (go_at_call 33; refine (hM.out _).mono ?_; rintro e w1 ⟨⟨q1, k1, o1, i1, HE1, HO1', rfl⟩, hg⟩; obtain rfl : i1 = false := (congrArg Prod.snd HE1.out).trans HR.out; have HO2 := Lib.hid (HO1.out.bel' hg); have HW2 := Lib.hid (HW1.out.trans' hg); clear hg)
        go_roundw
        case rel => exact ⟨k + 1, out, q, c, by omega, by go_num, rfl, by omega, Lib.hid ⟨HN.out.symm, HO2.out⟩⟩
        case measure => simp [intOf]; omega
      · have HN : RowKit.Hid ((l.take (k + 1)).filter (matchB p) = out ++ [x]) := Lib.hid (by rw [HS.out, ← HE.out, hm]; rfl)
        have HR := Lib.hid ((extR_snd p x).trans hm)
        clear hm
        go_wp2_with (first | (go_at_call 33; refine (hM.out _).mono ?_; rintro e w1 ⟨⟨q1, k1, o1, i1, HE1, HO1', rfl⟩, hg⟩; obtain rfl : i1 = true := (congrArg Prod.snd HE1.out).trans HR.out; have HO2 := Lib.hid (HO1.out.bel' hg); have HW2 := Lib.hid (HW1.out.trans' hg); obtain ⟨x0, x1, x2, x3, x4, x5, x6, x7, x8, x9, x10⟩ := (HXA.out.bel hg).cells; clear hg) | (at_builtin; refine wpList_pushA rfl (.tmp 23) (.tmp 25) 60 Try.underlying60 rfl x rfl rfl HO2.out (by omega) ?_; intro q' c' w5 out' HX5 HO5))
        go_roundw
        case rel => exact ⟨k + 1, out', q', c', by omega, by go_num, rfl, by rw [HX5.out]; simp; omega, Lib.hid ⟨HX5.out.trans HN.out.symm, HO5.out⟩⟩
        case measure => simp [intOf]; omega
    · obtain rfl : k = l.length := by omega
      have HN : RowKit.Hid (out = l.filter (matchB p)) := Lib.hid (by have := HE.out; rwa [List.take_length] at this)
      have HBo := Lib.hid (HB.out.trans' HW.out)
      go_wp2
      go_ret
      exact ⟨⟨q, c, out, HN, Lib.hid (HO.out.base HB.out), rfl⟩, HBo.out⟩
end Go.Proofs.Ytlbollmmomheoaa
