/-
  Binding one more variable. Conditions: as each says.
-/
import Derived.Test.YtdmdefdiglpgaaaSbM
import Derived.Test.YtdmdefdiglpgaaaSbE
namespace Go.Proofs.Ytdmdefdiglpgaaa
open Go.RowKit

theorem under_len (A : Option Addr) (l : List BindD) (n ca : Nat) (hn : l.length = n) (B : Option Addr) (m : List BindD) (nb cb : Nat) (hnb : m.length = nb) (w : World) (hL : BL w A ca l) (hl : l.length ≤ 1000000) (hM : BL w B cb m) (hm : m.length ≤ 1000000) (hA : Asc m) :
    Calls Try.prog 44 #[.slice A n ca, .slice B nb cb] w fun e w' => (∃ q c out, RowKit.Hid (out = undB l m) ∧ RowKit.Hid (OB w w' q c out) ∧ e = .returned (.slice q out.length c)) ∧ Bel w w' := by
  subst hnb
  exact under_any A l n ca hn B m cb w hL hl hM hm hA
theorem withB_len (l : List BindD) (b : BindD) : (withB l b).length = l.length + 1 := by
  unfold withB
  have := placeN_le l b.v
  rw [List.length_append, List.length_take, List.length_cons, List.length_drop]
  omega
theorem asc_one (b : BindD) : Asc [b] := asc_cons.2 ⟨by simp, asc_nil⟩
set_option maxRecDepth 20000 in
set_option maxHeartbeats 8000000 in
theorem Bind_any (A : Option Addr) (l : List BindD) (ca : Nat) (v : ByteArray) (t : TermD) (w : World) (hL : BL w A ca l) (hl : l.length ≤ 100000) :
    Calls Try.prog 10 #[.slice A l.length ca, .string v, .agg #[.bool t.v, .string t.name]] w fun e w' => (∃ q c out n, RowKit.Hid ((out, n) = bindD l v t) ∧ RowKit.Hid (OB w w' q c out) ∧ e = .returned (.tuple #[.slice q out.length c, .int .i64 n])) ∧ Bel w w' := by
  have HL := Lib.hid hL
  clear hL
  have hl2 : l.length ≤ 1000000 := by omega
  obtain ⟨tv, ts⟩ := t
  have hb := bel_alloc w (.cells #[.bool tv, .string ts] 29)
  have hT : TermAt (w.alloc (.cells #[.bool tv, .string ts] 29)) w.heap.size ⟨tv, ts⟩ := TermAt.new w ⟨tv, ts⟩
  have hC := Lib.hid (fun W (hg : Bel w W) => Check_any A l ca W (HL.out.bel hg) hl2)
  rcases Bool.eq_false_or_eq_true (checkB l) with hc | hc
  case inr =>
    have HR := Lib.hid (bind_bad (v := v) (t := ⟨tv, ts⟩) hc)
    have hE := errB_bad hc
    rw [hE] at hC
    clear hc hE
    go_enter Try.func10, Try.ntmps10
    go_wp2_with (go_at_call 19; refine (hC.out _ hb).mono ?_; rintro e w1 ⟨rfl, hg⟩; have hb := hb.trans' hg; clear hg)
    go_ret2
    exact ⟨⟨none, 0, [], 15, Lib.hid HR.out.symm, Lib.hid (OB.nil w hb), rfl⟩, hb⟩
  have hE := errB_ok hc
  rw [hE] at hC
  have HC := Lib.hid hc
  clear hc hE
  have hBi := Lib.hid (fun W (hg : Bel w W) => binds_any A l l.length ca rfl v W (HL.out.bel hg) hl2 (checkB_iff.1 HC.out).1)
  have hTe := Lib.hid (fun W (hg : Bel w W) => Term_any A l ca ⟨tv, ts⟩ W (HL.out.bel hg) hl2)
  by_cases hv : v = emp
  · have HR := Lib.hid (bind_arg (v := v) (t := ⟨tv, ts⟩) HC.out (.inl hv))
    subst hv
    unfold emp at *
    go_enter Try.func10, Try.ntmps10
    go_wp2_with (go_at_call 19; refine (hC.out _ hb).mono ?_; rintro e w1 ⟨rfl, hg⟩; have hb := hb.trans' hg; clear hg)
    go_ret2
    exact ⟨⟨none, 0, [], 2, Lib.hid HR.out.symm, Lib.hid (OB.nil w hb), rfl⟩, hb⟩
  have hv2 := ne_emp hv
  have hv3 : v.toList.isEmpty = false := by simpa using hv2
  by_cases hs : ts = emp
  · have HR := Lib.hid (bind_arg (v := v) (t := ⟨tv, ts⟩) HC.out (.inr hs))
    subst hs
    clear hv
    unfold emp at *
    go_enter Try.func10, Try.ntmps10
    go_wp2_with (go_at_call 19; refine (hC.out _ hb).mono ?_; rintro e w1 ⟨rfl, hg⟩; have hT := hT.bel hg; have d1 : World.cell? _ _ = some (.string ⟨#[]⟩) := hT.cells.2; have hb := hb.trans' hg; clear hg)
    go_ret2
    exact ⟨⟨none, 0, [], 2, Lib.hid HR.out.symm, Lib.hid (OB.nil w hb), rfl⟩, hb⟩
  have hs2 := ne_emp hs
  have hs3 : ts.toList.isEmpty = false := by simpa using hs2
  have HVS : RowKit.Hid (¬ (v = emp ∨ ts = emp)) := Lib.hid (fun h => h.elim hv hs)
  clear hv hs
  rcases Bool.eq_false_or_eq_true (getB l v).isSome with hg | hg
  · have HR := Lib.hid (bind_twice (t := ⟨tv, ts⟩) HC.out HVS.out hg)
    rw [hg] at hBi
    clear hg
    go_enter Try.func10, Try.ntmps10
    go_wp2_with (first | (go_at_call 19; refine (hC.out _ hb).mono ?_; rintro e w1 ⟨rfl, hg⟩; have hT := hT.bel hg; have d1 : World.cell? _ _ = some (.string ts) := hT.cells.2; have hb := hb.trans' hg; clear hg) | (go_at_call 42; refine (hBi.out _ hb).mono ?_; rintro e w2 ⟨rfl, hg⟩; have hb := hb.trans' hg; clear hg))
    go_ret2
    exact ⟨⟨none, 0, [], 5, Lib.hid HR.out.symm, Lib.hid (OB.nil w hb), rfl⟩, hb⟩
  have HG := Lib.hid hg
  rw [hg] at hBi
  clear hg
  cases hsf : selfB ⟨v, subT l ⟨tv, ts⟩⟩
  case true =>
    have HR := Lib.hid (bind_self HC.out HVS.out HG.out hsf)
    have HSF := Lib.hid hsf
    clear hsf
    go_enter Try.func10, Try.ntmps10
    go_wp2_with (first | (go_at_call 19; refine (hC.out _ hb).mono ?_; rintro e w1 ⟨rfl, hg⟩; have hT := hT.bel hg; have d1 : World.cell? _ _ = some (.string ts) := hT.cells.2; have hb := hb.trans' hg; clear hg) | (go_at_call 42; refine (hBi.out _ hb).mono ?_; rintro e w2 ⟨rfl, hg⟩; have hT := hT.bel hg; have d1 : World.cell? _ _ = some (.string ts) := hT.cells.2; have d0 : World.cell? _ _ = some (.bool tv) := hT.cells.1; have hb := hb.trans' hg; clear hg) | (go_at_call 17; refine (hTe.out _ hb).mono ?_; rintro e w3 ⟨⟨u, HU, rfl⟩, hg⟩; have hb := hb.trans' hg; have hX := BindAt.new w3 ⟨v, u⟩; have hb := hb.trans' (bel_alloc w3 (.cells #[.string v, .bool u.v, .string u.name] 32)); have hF := self_any ⟨v, u⟩ (w3.alloc (.cells #[.string v, .bool u.v, .string u.name] 32)); rw [show selfB ⟨v, u⟩ = true from (by rw [HU.out]; exact HSF.out)] at hF; have hF := Lib.hid hF; clear hg) | (go_at_call 43; refine hF.out.mono ?_; rintro e w4 ⟨rfl, hg⟩; have hb := hb.trans' hg; clear hg))
    go_ret2
    exact ⟨⟨none, 0, [], 2, Lib.hid HR.out.symm, Lib.hid (OB.nil w hb), rfl⟩, hb⟩
  case false =>
    have HR := Lib.hid (bind_ok HC.out HVS.out HG.out hsf)
    have HUW := Lib.hid (und_with HC.out HG.out hsf)
    have HSF := Lib.hid hsf
    clear hsf
    go_enter Try.func10, Try.ntmps10
    go_wp2_with (first | (go_at_call 19; refine (hC.out _ hb).mono ?_; rintro e w1 ⟨rfl, hg⟩; have hT := hT.bel hg; have d1 : World.cell? _ _ = some (.string ts) := hT.cells.2; have hb := hb.trans' hg; clear hg) | (go_at_call 42; refine (hBi.out _ hb).mono ?_; rintro e w2 ⟨rfl, hg⟩; have hT := hT.bel hg; have d1 : World.cell? _ _ = some (.string ts) := hT.cells.2; have d0 : World.cell? _ _ = some (.bool tv) := hT.cells.1; have hb := hb.trans' hg; clear hg) | (go_at_call 17; refine (hTe.out _ hb).mono ?_; rintro e w3 ⟨⟨u, HU, rfl⟩, hg⟩; have hb := hb.trans' hg; have hX := BindAt.new w3 ⟨v, u⟩; have hb := hb.trans' (bel_alloc w3 (.cells #[.string v, .bool u.v, .string u.name] 32)); have hF := self_any ⟨v, u⟩ (w3.alloc (.cells #[.string v, .bool u.v, .string u.name] 32)); rw [show selfB ⟨v, u⟩ = false from (by rw [HU.out]; exact HSF.out)] at hF; have hF := Lib.hid hF; clear hg) | (go_at_call 43; refine hF.out.mono ?_; rintro e w4 ⟨rfl, hg⟩; have hb := hb.trans' hg; have hX := hX.bel hg; clear hg))
    have HR2 : RowKit.Hid (bindD l v ⟨tv, ts⟩ = (undB (withB l ⟨v, u⟩) [⟨v, u⟩], 0)) := Lib.hid (by rw [HR.out, ← HUW.out, ← HU.out])
    have HA := Lib.hid (checkB_iff.1 HC.out).1
    have HBd := Lib.hid (bel_drew' hb)
    have HBa := Lib.hid (bel_drew' (hb.trans' (bel_alloc w4 (.cells #[.string v, .bool u.v, .string u.name] 32))))
    have HNa : RowKit.Hid (BindAt (w4.alloc (.cells #[.string v, .bool u.v, .string u.name] 32)).drew w4.heap.size ⟨v, u⟩) := Lib.hid (BindAt.new w4 ⟨v, u⟩)
    have HXa : RowKit.Hid (BindAt (w4.alloc (.cells #[.string v, .bool u.v, .string u.name] 32)).drew w3.heap.size ⟨v, u⟩) := Lib.hid (hX.bel (bel_drew' (bel_alloc _ _)))
    have HXd : RowKit.Hid (BindAt w4.drew w3.heap.size ⟨v, u⟩) := Lib.hid hX
    have HWL := Lib.hid (withB_len l ⟨v, u⟩)
    have hW1 := Lib.hid (with_any A l ca ⟨v, u⟩ w4.drew (HL.out.bel HBd.out) hl2 HA.out)
    have hW2 := Lib.hid (with_any A l ca ⟨v, u⟩ (w4.alloc (.cells #[.string v, .bool u.v, .string u.name] 32)).drew (HL.out.bel HBa.out) hl2 HA.out)
    obtain ⟨x1, x2, x3⟩ := hX.cells
    simp only at x1 x2 x3
    clear hC hBi hTe hF HR HUW HU HSF hT d0 d1
    go_region_held3 (fun w' => w'.cell? ⟨w3.heap.size, 0, none⟩ = some (.string v) ∧ w'.cell? ⟨w3.heap.size, 1, none⟩ = some (.bool u.v) ∧ w'.cell? ⟨w3.heap.size, 2, none⟩ = some (.string u.name)) (first | go_keep | trivial)
      (first | (go_at_call 45; refine hW1.out.mono ?_; rintro e w5 ⟨⟨q1, c1, out1, HO1, HOB1, rfl⟩, hg⟩; have HB5 := Lib.hid (HBd.out.trans' hg); have HX5 := Lib.hid (HXd.out.bel hg); have z1 : w5.cell? ⟨w3.heap.size, 0, none⟩ = some (.string v) := HX5.out.cells.1; have z2 : w5.cell? ⟨w3.heap.size, 1, none⟩ = some (.bool u.v) := HX5.out.cells.2.1; have z3 : w5.cell? ⟨w3.heap.size, 2, none⟩ = some (.string u.name) := HX5.out.cells.2.2; have hol := Nat.le_of_eq (show out1.length = l.length + 1 from (by rw [HO1.out, HWL.out])); have hg5 := hg; clear hg) | (go_at_call 45; refine hW2.out.mono ?_; rintro e w5 ⟨⟨q1, c1, out1, HO1, HOB1, rfl⟩, hg⟩; have HB5 := Lib.hid (HBa.out.trans' hg); have HX5 := Lib.hid (HXa.out.bel hg); have HN5 := Lib.hid (HNa.out.bel hg); have z1 : w5.cell? ⟨w3.heap.size, 0, none⟩ = some (.string v) := HX5.out.cells.1; have z2 : w5.cell? ⟨w3.heap.size, 1, none⟩ = some (.bool u.v) := HX5.out.cells.2.1; have z3 : w5.cell? ⟨w3.heap.size, 2, none⟩ = some (.string u.name) := HX5.out.cells.2.2; have hol := Nat.le_of_eq (show out1.length = l.length + 1 from (by rw [HO1.out, HWL.out])); clear hg) | (go_at_call 44; refine (under_len q1 out1 out1.length c1 rfl (some ⟨w4.heap.size, 0, none⟩) [⟨v, u⟩] 1 1 rfl w5 (OwnL.slice EB HOB1.out) (Nat.le_trans hol (by omega)) HN5.out.slice (by simp) (asc_one _)).mono ?_; rintro e w6 ⟨⟨q2, c2, out2, HO2, HOB2, rfl⟩, hg⟩; have HB6 := Lib.hid (HB5.out.trans' hg); have HOF := Lib.hid (HOB2.out.base HB5.out); have HX6 := Lib.hid (HX5.out.bel hg); have u1 : w6.cell? ⟨w3.heap.size, 0, none⟩ = some (.string v) := HX6.out.cells.1; have u2 : w6.cell? ⟨w3.heap.size, 1, none⟩ = some (.bool u.v) := HX6.out.cells.2.1; have u3 : w6.cell? ⟨w3.heap.size, 2, none⟩ = some (.string u.name) := HX6.out.cells.2.2; clear hg) | (go_at_call 44; refine (under_len q1 out1 out1.length c1 rfl (some ⟨w5.heap.size, 0, none⟩) [⟨v, u⟩] 1 1 rfl (w5.alloc (.cells #[.string v, .bool u.v, .string u.name] 32)) ((OwnL.slice EB HOB1.out).bel (bel_alloc _ _)) (Nat.le_trans hol (by omega)) (BindAt.new w5 ⟨v, u⟩).slice (by simp) (asc_one _)).mono ?_; rintro e w6 ⟨⟨q2, c2, out2, HO2, HOB2, rfl⟩, hg⟩; have HB6 := Lib.hid ((HB5.out.trans' (bel_alloc _ _)).trans' hg); have HOF := Lib.hid (HOB2.out.base (HB5.out.trans' (bel_alloc _ _))); have HX6 := Lib.hid ((HX5.out.bel (bel_alloc _ _)).bel hg); have u1 : w6.cell? ⟨w3.heap.size, 0, none⟩ = some (.string v) := HX6.out.cells.1; have u2 : w6.cell? ⟨w3.heap.size, 1, none⟩ = some (.bool u.v) := HX6.out.cells.2.1; have u3 : w6.cell? ⟨w3.heap.size, 2, none⟩ = some (.string u.name) := HX6.out.cells.2.2; clear hg))
    all_goals go_wp2
    all_goals go_ret2
    all_goals exact ⟨⟨_, _, _, 0, Lib.hid (by rw [HR2.out, HO2.out, HO1.out]), HOF, rfl⟩, HB6.out⟩
end Go.Proofs.Ytdmdefdiglpgaaa
