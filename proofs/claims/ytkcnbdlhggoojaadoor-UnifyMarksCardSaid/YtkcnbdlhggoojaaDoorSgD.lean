/-
  What binding one more variable makes, in two ways. No condition. Binding one more variable. Conditions: as each says. Composing bindings. Conditions: as each says.
-/
import Derived.Test.YtkcnbdlhggoojaaDoorSgA
import Derived.Test.YtkcnbdlhggoojaaDoorSgC
import Derived.Handy
namespace Go.Proofs.YtkcnbdlhggoojaaDoor
open Go.RowKit

theorem selfB_iff {b : BindD} : selfB b = true ↔ b.t = ⟨true, b.v⟩ := by
  obtain ⟨v, tv, s⟩ := b
  unfold selfB
  simp [TermD.mk.injEq]
theorem putB_cons (x : BindD) (l : List BindD) (b : BindD) : putB (x :: l) b = if ltS b.v x.v then b :: x :: l else x :: putB l b := rfl
theorem map_put (f : BindD → BindD) (hf : ∀ x, (f x).v = x.v) : ∀ (l : List BindD) (b : BindD), (putB l b).map f = putB (l.map f) (f b)
  | [], b => rfl
  | y :: l, b => by
    rw [List.map_cons, putB_cons, putB_cons, hf, hf]
    split
    · rfl
    · rw [List.map_cons, map_put f hf l b]
theorem subT_one {b : BindD} {t : TermD} : subT [b] t = if t.v = true ∧ t.name = b.v then b.t else t := by
  unfold subT
  simp only [getB]
  by_cases h : b.v = t.name
  · rw [if_pos h]
    cases hv : t.v
    · simp
    · simp [h]
  · have hk : ¬ (t.v = true ∧ t.name = b.v) := fun k => h k.2.symm
    rw [if_neg h, if_neg hk]
    simp
/-- what a term becomes is no variable that is bound -/
theorem subT_free {l : List BindD} (hl : checkB l = true) (t : TermD) : (subT l t).v = true → getB l (subT l t).name = none := by
  intro h
  obtain ⟨hA, hc⟩ := checkB_iff.1 hl
  by_cases hv : t.v = true
  · cases e : getB l t.name with
    | none =>
      have : subT l t = t := by unfold subT; rw [if_pos hv, e]; rfl
      rw [this]; exact e
    | some u =>
      have : subT l t = u := by unfold subT; rw [if_pos hv, e]; rfl
      rw [this] at h ⊢
      exact (hc _ (getB_mem e)).2 h
  · have : subT l t = t := by unfold subT; rw [if_neg hv]
    rw [this] at h
    exact absurd h hv
theorem und_with {l : List BindD} {v : ByteArray} {t : TermD} (hl : checkB l = true) (hv : (getB l v).isSome = false) (hs : selfB ⟨v, subT l t⟩ = false) :
    undB (withB l ⟨v, subT l t⟩) [⟨v, subT l t⟩] = putB (l.map (fun y => ⟨y.v, subT [⟨v, subT l t⟩] y.t⟩)) ⟨v, subT l t⟩ := by
  obtain ⟨hA, hc⟩ := checkB_iff.1 hl
  have hn : getB l v = none := by cases e : getB l v with | none => rfl | some u => rw [e] at hv; cases hv
  have hne := getB_none.1 hn
  have hfree := subT_free hl t
  have hs2 : ¬ (subT l t = ⟨true, v⟩) := fun e => by
    have : selfB ⟨v, subT l t⟩ = true := selfB_iff.2 e
    rw [hs] at this; cases this
  generalize subT l t = u at hfree hs hs2 ⊢
  rw [← put_at (b := ⟨v, u⟩) hA hne]
  unfold undB
  rw [map_put (fun b => ⟨b.v, subT [⟨v, u⟩] b.t⟩) (fun _ => rfl)]
  have e : subT [⟨v, u⟩] u = u := by
    rw [subT_one]
    by_cases h : u.v = true ∧ u.name = v
    · exact absurd (TermD.ext' h.1 h.2) hs2
    · rw [if_neg h]
  simp only [e]
  rw [List.filter_eq_self]
  intro x hx
  rw [Bool.not_eq_true', ← Bool.not_eq_true, selfB_iff]
  rcases putB_mem.1 hx with rfl | hx
  · exact hs2
  · obtain ⟨y, hy, rfl⟩ := List.mem_map.1 hx
    intro h
    simp only at h
    have hy1 : getB l y.v = some y.t := getB_of_mem hA hy
    rw [subT_one] at h
    split at h
    · simp only at h
      have := hfree (by rw [h])
      rw [h] at this
      simp only at this
      rw [hy1] at this; cases this
    · have := (hc y hy).2 (by rw [h])
      rw [h] at this
      simp only at this
      rw [hy1] at this; cases this
theorem bind_bad {l : List BindD} {v : ByteArray} {t : TermD} (h : checkB l = false) : bindD l v t = ([], 15) := by unfold bindD; rw [if_pos h]
theorem bind_arg {l : List BindD} {v : ByteArray} {t : TermD} (h : checkB l = true) (h2 : v = emp ∨ t.name = emp) : bindD l v t = ([], 2) := by unfold bindD; rw [if_neg (by simp [h]), if_pos h2]
theorem bind_twice {l : List BindD} {v : ByteArray} {t : TermD} (h : checkB l = true) (h2 : ¬ (v = emp ∨ t.name = emp)) (h3 : (getB l v).isSome = true) : bindD l v t = ([], 5) := by unfold bindD; rw [if_neg (by simp [h]), if_neg h2, if_pos h3]
theorem bind_self {l : List BindD} {v : ByteArray} {t : TermD} (h : checkB l = true) (h2 : ¬ (v = emp ∨ t.name = emp)) (h3 : (getB l v).isSome = false) (h4 : selfB ⟨v, subT l t⟩ = true) : bindD l v t = ([], 2) := by unfold bindD; rw [if_neg (by simp [h]), if_neg h2, if_neg (by simp [h3]), if_pos h4]
theorem bind_ok {l : List BindD} {v : ByteArray} {t : TermD} (h : checkB l = true) (h2 : ¬ (v = emp ∨ t.name = emp)) (h3 : (getB l v).isSome = false) (h4 : selfB ⟨v, subT l t⟩ = false) :
    bindD l v t = (putB (l.map (fun y => ⟨y.v, subT [⟨v, subT l t⟩] y.t⟩)) ⟨v, subT l t⟩, 0) := by unfold bindD; rw [if_neg (by simp [h]), if_neg h2, if_neg (by simp [h3]), if_neg (by simp [h4])]
theorem errB_ok {l : List BindD} (h : checkB l = true) : errB l = 0 := by unfold errB; rw [if_pos h]
theorem errB_bad {l : List BindD} (h : checkB l = false) : errB l = 15 := by unfold errB; rw [if_neg (by simp [h])]
end Go.Proofs.YtkcnbdlhggoojaaDoor
namespace Go.Proofs.YtkcnbdlhggoojaaDoor
open Go.RowKit

theorem under_len (A : Option Addr) (l : List BindD) (n ca : Nat) (hn : l.length = n) (B : Option Addr) (m : List BindD) (nb cb : Nat) (hnb : m.length = nb) (w : World) (hL : BL w A ca l) (hl : l.length ≤ 1000000) (hM : BL w B cb m) (hm : m.length ≤ 1000000) (hA : Asc m) :
    Calls Tryd.prog 41 #[.slice A n ca, .slice B nb cb] w fun e w' => (∃ q c out, RowKit.Hid (out = undB l m) ∧ RowKit.Hid (OB w w' q c out) ∧ e = .returned (.slice q out.length c)) ∧ Bel w w' := by
  subst hnb
  exact under_any A l n ca hn B m cb w hL hl hM hm hA
theorem withB_len (l : List BindD) (b : BindD) : (withB l b).length = l.length + 1 := by
  unfold withB
  have := placeN_le l b.v
  rw [List.length_append, List.length_take, List.length_cons, List.length_drop]
  omega
theorem asc_one (b : BindD) : Asc [b] := asc_cons.2 ⟨by simp, asc_nil⟩
set_option maxRecDepth 20000 in
set_option maxHeartbeats 8000000 in
theorem Bind_any (A : Option Addr) (l : List BindD) (ca : Nat) (v : ByteArray) (t : TermD) (w : World) (hL : BL w A ca l) (hl : l.length ≤ 100000) :
    Calls Tryd.prog 24 #[.slice A l.length ca, .string v, .agg #[.bool t.v, .string t.name]] w fun e w' => (∃ q c out n, RowKit.Hid ((out, n) = bindD l v t) ∧ RowKit.Hid (OB w w' q c out) ∧ e = .returned (.tuple #[.slice q out.length c, .int .i64 n])) ∧ Bel w w' := by
  have HL := Lib.hid hL
  clear hL
  have hl2 : l.length ≤ 1000000 := by omega
  obtain ⟨tv, ts⟩ := t
  have hb := bel_alloc w (.cells #[.bool tv, .string ts] 27)
  have hT : TermAt (w.alloc (.cells #[.bool tv, .string ts] 27)) w.heap.size ⟨tv, ts⟩ := TermAt.new w ⟨tv, ts⟩
  have hC := Lib.hid (fun W (hg : Bel w W) => Check_any A l ca W (HL.out.bel hg) hl2)
  rcases Bool.eq_false_or_eq_true (checkB l) with hc | hc
  case inr =>
    have HR := Lib.hid (bind_bad (v := v) (t := ⟨tv, ts⟩) hc)
    have hE := errB_bad hc
    rw [hE] at hC
    clear hc hE
    go_enter Tryd.func24, Tryd.ntmps24
    go_wp2_with (go_at_call 38; refine (hC.out _ hb).mono ?_; rintro e w1 ⟨rfl, hg⟩; have hb := hb.trans' hg; clear hg)
    go_ret2
    exact ⟨⟨none, 0, [], 15, Lib.hid HR.out.symm, Lib.hid (OB.nil w hb), rfl⟩, hb⟩
  have hE := errB_ok hc
  rw [hE] at hC
  have HC := Lib.hid hc
  clear hc hE
  have hBi := Lib.hid (fun W (hg : Bel w W) => binds_any A l l.length ca rfl v W (HL.out.bel hg) hl2 (checkB_iff.1 HC.out).1)
  have hTe := Lib.hid (fun W (hg : Bel w W) => Term_any A l ca ⟨tv, ts⟩ W (HL.out.bel hg) hl2)
  by_cases hv : v = emp
  · have HR := Lib.hid (bind_arg (v := v) (t := ⟨tv, ts⟩) HC.out (.inl hv))
    subst hv
    unfold emp at *
    go_enter Tryd.func24, Tryd.ntmps24
    go_wp2_with (go_at_call 38; refine (hC.out _ hb).mono ?_; rintro e w1 ⟨rfl, hg⟩; have hb := hb.trans' hg; clear hg)
    go_ret2
    exact ⟨⟨none, 0, [], 2, Lib.hid HR.out.symm, Lib.hid (OB.nil w hb), rfl⟩, hb⟩
  have hv2 := ne_emp hv
  have hv3 : v.toList.isEmpty = false := by simpa using hv2
  by_cases hs : ts = emp
  · have HR := Lib.hid (bind_arg (v := v) (t := ⟨tv, ts⟩) HC.out (.inr hs))
    subst hs
    clear hv
    unfold emp at *
    go_enter Tryd.func24, Tryd.ntmps24
    go_wp2_with (go_at_call 38; refine (hC.out _ hb).mono ?_; rintro e w1 ⟨rfl, hg⟩; have hT := hT.bel hg; have d1 : World.cell? _ _ = some (.string ⟨#[]⟩) := hT.cells.2; have hb := hb.trans' hg; clear hg)
    go_ret2
    exact ⟨⟨none, 0, [], 2, Lib.hid HR.out.symm, Lib.hid (OB.nil w hb), rfl⟩, hb⟩
  have hs2 := ne_emp hs
  have hs3 : ts.toList.isEmpty = false := by simpa using hs2
  have HVS : RowKit.Hid (¬ (v = emp ∨ ts = emp)) := Lib.hid (fun h => h.elim hv hs)
  clear hv hs
  rcases Bool.eq_false_or_eq_true (getB l v).isSome with hg | hg
  · have HR := Lib.hid (bind_twice (t := ⟨tv, ts⟩) HC.out HVS.out hg)
    rw [hg] at hBi
    clear hg
    go_enter Tryd.func24, Tryd.ntmps24
    go_wp2_with (first | (go_at_call 38; refine (hC.out _ hb).mono ?_; rintro e w1 ⟨rfl, hg⟩; have hT := hT.bel hg; have d1 : World.cell? _ _ = some (.string ts) := hT.cells.2; have hb := hb.trans' hg; clear hg) | (go_at_call 39; refine (hBi.out _ hb).mono ?_; rintro e w2 ⟨rfl, hg⟩; have hb := hb.trans' hg; clear hg))
    go_ret2
    exact ⟨⟨none, 0, [], 5, Lib.hid HR.out.symm, Lib.hid (OB.nil w hb), rfl⟩, hb⟩
  have HG := Lib.hid hg
  rw [hg] at hBi
  clear hg
  cases hsf : selfB ⟨v, subT l ⟨tv, ts⟩⟩
  case true =>
    have HR := Lib.hid (bind_self HC.out HVS.out HG.out hsf)
    have HSF := Lib.hid hsf
    clear hsf
    go_enter Tryd.func24, Tryd.ntmps24
    go_wp2_with (first | (go_at_call 38; refine (hC.out _ hb).mono ?_; rintro e w1 ⟨rfl, hg⟩; have hT := hT.bel hg; have d1 : World.cell? _ _ = some (.string ts) := hT.cells.2; have hb := hb.trans' hg; clear hg) | (go_at_call 39; refine (hBi.out _ hb).mono ?_; rintro e w2 ⟨rfl, hg⟩; have hT := hT.bel hg; have d1 : World.cell? _ _ = some (.string ts) := hT.cells.2; have d0 : World.cell? _ _ = some (.bool tv) := hT.cells.1; have hb := hb.trans' hg; clear hg) | (go_at_call 25; refine (hTe.out _ hb).mono ?_; rintro e w3 ⟨⟨u, HU, rfl⟩, hg⟩; have hb := hb.trans' hg; have hX := BindAt.new w3 ⟨v, u⟩; have hb := hb.trans' (bel_alloc w3 (.cells #[.string v, .bool u.v, .string u.name] 39)); have hF := self_any ⟨v, u⟩ (w3.alloc (.cells #[.string v, .bool u.v, .string u.name] 39)); rw [show selfB ⟨v, u⟩ = true from (by rw [HU.out]; exact HSF.out)] at hF; have hF := Lib.hid hF; clear hg) | (go_at_call 40; refine hF.out.mono ?_; rintro e w4 ⟨rfl, hg⟩; have hb := hb.trans' hg; clear hg))
    go_ret2
    exact ⟨⟨none, 0, [], 2, Lib.hid HR.out.symm, Lib.hid (OB.nil w hb), rfl⟩, hb⟩
  case false =>
    have HR := Lib.hid (bind_ok HC.out HVS.out HG.out hsf)
    have HUW := Lib.hid (und_with HC.out HG.out hsf)
    have HSF := Lib.hid hsf
    clear hsf
    go_enter Tryd.func24, Tryd.ntmps24
    go_wp2_with (first | (go_at_call 38; refine (hC.out _ hb).mono ?_; rintro e w1 ⟨rfl, hg⟩; have hT := hT.bel hg; have d1 : World.cell? _ _ = some (.string ts) := hT.cells.2; have hb := hb.trans' hg; clear hg) | (go_at_call 39; refine (hBi.out _ hb).mono ?_; rintro e w2 ⟨rfl, hg⟩; have hT := hT.bel hg; have d1 : World.cell? _ _ = some (.string ts) := hT.cells.2; have d0 : World.cell? _ _ = some (.bool tv) := hT.cells.1; have hb := hb.trans' hg; clear hg) | (go_at_call 25; refine (hTe.out _ hb).mono ?_; rintro e w3 ⟨⟨u, HU, rfl⟩, hg⟩; have hb := hb.trans' hg; have hX := BindAt.new w3 ⟨v, u⟩; have hb := hb.trans' (bel_alloc w3 (.cells #[.string v, .bool u.v, .string u.name] 39)); have hF := self_any ⟨v, u⟩ (w3.alloc (.cells #[.string v, .bool u.v, .string u.name] 39)); rw [show selfB ⟨v, u⟩ = false from (by rw [HU.out]; exact HSF.out)] at hF; have hF := Lib.hid hF; clear hg) | (go_at_call 40; refine hF.out.mono ?_; rintro e w4 ⟨rfl, hg⟩; have hb := hb.trans' hg; have hX := hX.bel hg; clear hg))
    have HR2 : RowKit.Hid (bindD l v ⟨tv, ts⟩ = (undB (withB l ⟨v, u⟩) [⟨v, u⟩], 0)) := Lib.hid (by rw [HR.out, ← HUW.out, ← HU.out])
    have HA := Lib.hid (checkB_iff.1 HC.out).1
    have HBd := Lib.hid (bel_drew' hb)
    have HBa := Lib.hid (bel_drew' (hb.trans' (bel_alloc w4 (.cells #[.string v, .bool u.v, .string u.name] 39))))
    have HNa : RowKit.Hid (BindAt (w4.alloc (.cells #[.string v, .bool u.v, .string u.name] 39)).drew w4.heap.size ⟨v, u⟩) := Lib.hid (BindAt.new w4 ⟨v, u⟩)
    have HXa : RowKit.Hid (BindAt (w4.alloc (.cells #[.string v, .bool u.v, .string u.name] 39)).drew w3.heap.size ⟨v, u⟩) := Lib.hid (hX.bel (bel_drew' (bel_alloc _ _)))
    have HXd : RowKit.Hid (BindAt w4.drew w3.heap.size ⟨v, u⟩) := Lib.hid hX
    have HWL := Lib.hid (withB_len l ⟨v, u⟩)
    have hW1 := Lib.hid (with_any A l ca ⟨v, u⟩ w4.drew (HL.out.bel HBd.out) hl2 HA.out)
    have hW2 := Lib.hid (with_any A l ca ⟨v, u⟩ (w4.alloc (.cells #[.string v, .bool u.v, .string u.name] 39)).drew (HL.out.bel HBa.out) hl2 HA.out)
    obtain ⟨x1, x2, x3⟩ := hX.cells
    simp only at x1 x2 x3
    clear hC hBi hTe hF HR HUW HU HSF hT d0 d1
    go_region_held3 (fun w' => w'.cell? ⟨w3.heap.size, 0, none⟩ = some (.string v) ∧ w'.cell? ⟨w3.heap.size, 1, none⟩ = some (.bool u.v) ∧ w'.cell? ⟨w3.heap.size, 2, none⟩ = some (.string u.name)) (first | go_keep | trivial)
      (first | (go_at_call 42; refine hW1.out.mono ?_; rintro e w5 ⟨⟨q1, c1, out1, HO1, HOB1, rfl⟩, hg⟩; have HB5 := Lib.hid (HBd.out.trans' hg); have HX5 := Lib.hid (HXd.out.bel hg); have z1 : w5.cell? ⟨w3.heap.size, 0, none⟩ = some (.string v) := HX5.out.cells.1; have z2 : w5.cell? ⟨w3.heap.size, 1, none⟩ = some (.bool u.v) := HX5.out.cells.2.1; have z3 : w5.cell? ⟨w3.heap.size, 2, none⟩ = some (.string u.name) := HX5.out.cells.2.2; have hol := Nat.le_of_eq (show out1.length = l.length + 1 from (by rw [HO1.out, HWL.out])); have hg5 := hg; clear hg) | (go_at_call 42; refine hW2.out.mono ?_; rintro e w5 ⟨⟨q1, c1, out1, HO1, HOB1, rfl⟩, hg⟩; have HB5 := Lib.hid (HBa.out.trans' hg); have HX5 := Lib.hid (HXa.out.bel hg); have HN5 := Lib.hid (HNa.out.bel hg); have z1 : w5.cell? ⟨w3.heap.size, 0, none⟩ = some (.string v) := HX5.out.cells.1; have z2 : w5.cell? ⟨w3.heap.size, 1, none⟩ = some (.bool u.v) := HX5.out.cells.2.1; have z3 : w5.cell? ⟨w3.heap.size, 2, none⟩ = some (.string u.name) := HX5.out.cells.2.2; have hol := Nat.le_of_eq (show out1.length = l.length + 1 from (by rw [HO1.out, HWL.out])); clear hg) | (go_at_call 41; refine (under_len q1 out1 out1.length c1 rfl (some ⟨w4.heap.size, 0, none⟩) [⟨v, u⟩] 1 1 rfl w5 (OwnL.slice EB HOB1.out) (Nat.le_trans hol (by omega)) HN5.out.slice (by simp) (asc_one _)).mono ?_; rintro e w6 ⟨⟨q2, c2, out2, HO2, HOB2, rfl⟩, hg⟩; have HB6 := Lib.hid (HB5.out.trans' hg); have HOF := Lib.hid (HOB2.out.base HB5.out); have HX6 := Lib.hid (HX5.out.bel hg); have u1 : w6.cell? ⟨w3.heap.size, 0, none⟩ = some (.string v) := HX6.out.cells.1; have u2 : w6.cell? ⟨w3.heap.size, 1, none⟩ = some (.bool u.v) := HX6.out.cells.2.1; have u3 : w6.cell? ⟨w3.heap.size, 2, none⟩ = some (.string u.name) := HX6.out.cells.2.2; clear hg) | (go_at_call 41; refine (under_len q1 out1 out1.length c1 rfl (some ⟨w5.heap.size, 0, none⟩) [⟨v, u⟩] 1 1 rfl (w5.alloc (.cells #[.string v, .bool u.v, .string u.name] 39)) ((OwnL.slice EB HOB1.out).bel (bel_alloc _ _)) (Nat.le_trans hol (by omega)) (BindAt.new w5 ⟨v, u⟩).slice (by simp) (asc_one _)).mono ?_; rintro e w6 ⟨⟨q2, c2, out2, HO2, HOB2, rfl⟩, hg⟩; have HB6 := Lib.hid ((HB5.out.trans' (bel_alloc _ _)).trans' hg); have HOF := Lib.hid (HOB2.out.base (HB5.out.trans' (bel_alloc _ _))); have HX6 := Lib.hid ((HX5.out.bel (bel_alloc _ _)).bel hg); have u1 : w6.cell? ⟨w3.heap.size, 0, none⟩ = some (.string v) := HX6.out.cells.1; have u2 : w6.cell? ⟨w3.heap.size, 1, none⟩ = some (.bool u.v) := HX6.out.cells.2.1; have u3 : w6.cell? ⟨w3.heap.size, 2, none⟩ = some (.string u.name) := HX6.out.cells.2.2; clear hg))
    all_goals go_wp2
    all_goals go_ret2
    all_goals exact ⟨⟨_, _, _, 0, Lib.hid (by rw [HR2.out, HO2.out, HO1.out]), HOF, rfl⟩, HB6.out⟩
end Go.Proofs.YtkcnbdlhggoojaaDoor
namespace Go.Proofs.YtkcnbdlhggoojaaDoor
open Go.RowKit

theorem und_asc {l : List BindD} (h : Asc l) (m : List BindD) : Asc (undB l m) := by
  unfold undB
  refine asc_sub ?_ (List.filter_sublist ..)
  unfold Asc at h ⊢
  rw [List.pairwise_map]
  exact h
theorem unb_asc {l : List BindD} (h : Asc l) (m : List BindD) : Asc (unbB l m) := asc_sub h (List.filter_sublist ..)
theorem joinB_len : ∀ (m l : List BindD), (joinB l m).length = l.length + m.length
  | [], l => rfl
  | b :: m, l => by
    have := placeN_le l b.v
    rw [joinB_cons, List.length_append, List.length_cons, joinB_len m, List.length_take, List.length_drop, List.length_cons]
    omega
theorem compL_len (a b : List BindD) : (compL a b).length ≤ a.length + b.length := by
  unfold compL
  rw [joinB_len]
  have := und_len a b
  have := unb_len b a
  omega
theorem comp_bad1 {a b : List BindD} (h : checkB a = false) : compD a b = ([], 15) := by unfold compD; rw [if_pos (.inl h)]
theorem comp_bad2 {a b : List BindD} (h : checkB b = false) : compD a b = ([], 15) := by unfold compD; rw [if_pos (.inr h)]
theorem comp_bad3 {a b : List BindD} (h1 : checkB a = true) (h2 : checkB b = true) (h : checkB (compL a b) = false) : compD a b = ([], 15) := by unfold compD; rw [if_neg (by simp [h1, h2]), if_neg (by simp [h])]
theorem comp_ok {a b : List BindD} (h1 : checkB a = true) (h2 : checkB b = true) (h : checkB (compL a b) = true) : compD a b = (compL a b, 0) := by unfold compD; rw [if_neg (by simp [h1, h2]), if_pos h]

end Go.Proofs.YtkcnbdlhggoojaaDoor
