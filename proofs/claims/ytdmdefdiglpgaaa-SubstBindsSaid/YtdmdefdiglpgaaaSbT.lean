/-
  The reference's binding of one more variable. Conditions: as it says.
-/
import Derived.Test.YtdmdefdiglpgaaaSbS
namespace Go.Proofs.Ytdmdefdiglpgaaa
open Go.RowKit

set_option maxRecDepth 20000 in
set_option maxHeartbeats 8000000 in
theorem rBind_any (A : Option Addr) (l : List BindD) (n ca : Nat) (hn : l.length = n) (v : ByteArray) (t : TermD) (w : World) (hL : BL w A ca l) (hl : l.length ≤ 100000) :
    Calls Try.prog 25 #[.slice A n ca, .string v, .agg #[.bool t.v, .string t.name]] w fun e w' => (∃ q c out n, RowKit.Hid ((out, n) = bindD l v t) ∧ RowKit.Hid (OB w w' q c out) ∧ e = .returned (.tuple #[.slice q out.length c, .int .i64 n])) ∧ Bel w w' := by
  subst hn
  have HL := Lib.hid hL
  clear hL
  have hl2 : l.length ≤ 1000000 := by omega
  obtain ⟨tv, ts⟩ := t
  have hb := bel_alloc w (.cells #[.bool tv, .string ts] 29)
  have hT : TermAt (w.alloc (.cells #[.bool tv, .string ts] 29)) w.heap.size ⟨tv, ts⟩ := TermAt.new w ⟨tv, ts⟩
  have hC := Lib.hid (fun W (hg : Bel w W) => rCheck4_any A l l.length ca rfl W (HL.out.bel hg) hl2)
  rcases Bool.eq_false_or_eq_true (checkB l) with hc | hc
  case inr =>
    have HR := Lib.hid (bind_bad (v := v) (t := ⟨tv, ts⟩) hc)
    have hE := errB_bad hc
    rw [hE] at hC
    clear hc hE
    go_enter Try.func25, Try.ntmps25
    go_wp2_with (go_at_call 27; refine (hC.out _ hb).mono ?_; rintro e w1 ⟨rfl, hg⟩; have hb := hb.trans' hg; clear hg)
    go_ret2
    exact ⟨⟨none, 0, [], 15, Lib.hid HR.out.symm, Lib.hid (OB.nil w hb), rfl⟩, hb⟩
  have hE := errB_ok hc
  rw [hE] at hC
  have HC := Lib.hid hc
  clear hc hE
  have hBi := Lib.hid (fun W (hg : Bel w W) => rGet_any A l l.length ca rfl v W (HL.out.bel hg) hl2)
  have hTe := Lib.hid (fun W (hg : Bel w W) => rTerm4_any A l l.length ca rfl ⟨tv, ts⟩ W (HL.out.bel hg) hl2)
  by_cases hv : v = emp
  · have HR := Lib.hid (bind_arg (v := v) (t := ⟨tv, ts⟩) HC.out (.inl hv))
    subst hv
    unfold emp at *
    go_enter Try.func25, Try.ntmps25
    go_wp2_with (go_at_call 27; refine (hC.out _ hb).mono ?_; rintro e w1 ⟨rfl, hg⟩; have hb := hb.trans' hg; clear hg)
    go_ret2
    exact ⟨⟨none, 0, [], 2, Lib.hid HR.out.symm, Lib.hid (OB.nil w hb), rfl⟩, hb⟩
  have hv2 := ne_emp hv
  have hv3 : v.toList.isEmpty = false := by simpa using hv2
  by_cases hs : ts = emp
  · have HR := Lib.hid (bind_arg (v := v) (t := ⟨tv, ts⟩) HC.out (.inr hs))
    subst hs
    clear hv
    unfold emp at *
    go_enter Try.func25, Try.ntmps25
    go_wp2_with (go_at_call 27; refine (hC.out _ hb).mono ?_; rintro e w1 ⟨rfl, hg⟩; have hT := hT.bel hg; have d1 : World.cell? _ _ = some (.string ⟨#[]⟩) := hT.cells.2; have hb := hb.trans' hg; clear hg)
    go_ret2
    exact ⟨⟨none, 0, [], 2, Lib.hid HR.out.symm, Lib.hid (OB.nil w hb), rfl⟩, hb⟩
  have hs2 := ne_emp hs
  have hs3 : ts.toList.isEmpty = false := by simpa using hs2
  have HVS : RowKit.Hid (¬ (v = emp ∨ ts = emp)) := Lib.hid (fun h => h.elim hv hs)
  clear hv hs
  obtain ⟨r, hr⟩ : ∃ r, r = getR l v := ⟨_, rfl⟩
  rw [← hr] at hBi
  have HRS : RowKit.Hid (r.2 = (getB l v).isSome) := Lib.hid (by rw [hr, getR_snd])
  clear hr
  obtain ⟨r1, r2⟩ := r
  cases r2
  case true =>
    have HR := Lib.hid (bind_twice (t := ⟨tv, ts⟩) HC.out HVS.out HRS.out.symm)
    go_enter Try.func25, Try.ntmps25
    go_wp2_with (first | (go_at_call 27; refine (hC.out _ hb).mono ?_; rintro e w1 ⟨rfl, hg⟩; have hT := hT.bel hg; have d1 : World.cell? _ _ = some (.string ts) := hT.cells.2; have hb := hb.trans' hg; clear hg) | (go_at_call 23; refine (hBi.out _ hb).mono ?_; rintro e w2 ⟨⟨t1, is1, hE, rfl⟩, hg⟩; obtain ⟨rfl, rfl⟩ := Prod.mk.inj hE.out; have hb := (hb.trans' hg).trans' (bel_alloc w2 (.cells #[.bool t1.v, .string t1.name] 29)); clear hg))
    go_ret2
    exact ⟨⟨none, 0, [], 5, Lib.hid HR.out.symm, Lib.hid (OB.nil w hb), rfl⟩, hb⟩
  have HG : RowKit.Hid ((getB l v).isSome = false) := Lib.hid HRS.out.symm
  obtain ⟨u, hu⟩ : ∃ u, u = subT l ⟨tv, ts⟩ := ⟨_, rfl⟩
  have HU0 := Lib.hid hu
  have HSB : RowKit.Hid (selfB ⟨v, u⟩ = (u.v && decide (u.name = v))) := Lib.hid rfl
  rw [← hu] at hTe
  cases hsf : selfB ⟨v, u⟩
  case true =>
    have HR := Lib.hid (bind_self HC.out HVS.out HG.out (by rw [← hu]; exact hsf))
    have hse := selfB_iff.1 hsf
    simp only at hse
    clear hu hsf HSB
    subst hse
    go_enter Try.func25, Try.ntmps25
    go_wp2_with (first | (go_at_call 27; refine (hC.out _ hb).mono ?_; rintro e w1 ⟨rfl, hg⟩; have hT := hT.bel hg; have d1 : World.cell? _ _ = some (.string ts) := hT.cells.2; have hb := hb.trans' hg; clear hg) | (go_at_call 23; refine (hBi.out _ hb).mono ?_; rintro e w2 ⟨⟨t1, is1, hE, rfl⟩, hg⟩; obtain ⟨rfl, rfl⟩ := Prod.mk.inj hE.out; have g2 := bel_alloc w2 (.cells #[.bool t1.v, .string t1.name] 29); have hT := (hT.bel hg).bel g2; have d1 : World.cell? _ _ = some (.string ts) := hT.cells.2; have d0 : World.cell? _ _ = some (.bool tv) := hT.cells.1; have hb := (hb.trans' hg).trans' g2; clear hg g2) | (go_at_call 28; refine (hTe.out _ hb).mono ?_; rintro e w3 ⟨⟨u1, HU, rfl⟩, hg⟩; obtain rfl := HU.out; have hb := (hb.trans' hg).trans' (bel_alloc w3 (.cells #[.bool true, .string v] 29)); clear hg))
    go_ret2
    exact ⟨⟨none, 0, [], 2, Lib.hid HR.out.symm, Lib.hid (OB.nil w hb), rfl⟩, hb⟩
  case false =>
    have HR := Lib.hid (bind_ok HC.out HVS.out HG.out (by rw [← hu]; exact hsf))
    rw [← hu] at HR
    have HSF := Lib.hid hsf
    clear hu hsf HSB
    obtain ⟨uv, un⟩ := u
    have hcmp : uv = false ∨ (uv = true ∧ (un.toList == v.toList) = false) := by
      cases uv
      · exact .inl rfl
      · refine .inr ⟨rfl, toList_ne (fun e => ?_)⟩
        have := HSF.out
        rw [selfB_iff.2 (by rw [e])] at this; cases this
    have HMA : RowKit.Hid (∀ k (h : k < l.length), (l.take (k + 1)).map (fun y => (⟨y.v, subT [⟨v, uv, un⟩] y.t⟩ : BindD)) = (l.take k).map (fun y => (⟨y.v, subT [⟨v, uv, un⟩] y.t⟩ : BindD)) ++ [⟨l[k].v, subT [⟨v, uv, un⟩] l[k].t⟩]) :=
      Lib.hid (fun k h => by rw [List.take_add_one, List.getElem?_eq_getElem h, List.map_append]; rfl)
    rcases hcmp with rfl | ⟨rfl, he⟩
    · go_enter Try.func25, Try.ntmps25
      go_wp2_with (first | (go_at_call 27; refine (hC.out _ hb).mono ?_; rintro e w1 ⟨rfl, hg⟩; have hT := hT.bel hg; have d1 : World.cell? _ _ = some (.string ts) := hT.cells.2; have hb := hb.trans' hg; clear hg) | (go_at_call 23; refine (hBi.out _ hb).mono ?_; rintro e w2 ⟨⟨t1, is1, hE, rfl⟩, hg⟩; obtain ⟨rfl, rfl⟩ := Prod.mk.inj hE.out; have g2 := bel_alloc w2 (.cells #[.bool t1.v, .string t1.name] 29); have hT := (hT.bel hg).bel g2; have d1 : World.cell? _ _ = some (.string ts) := hT.cells.2; have d0 : World.cell? _ _ = some (.bool tv) := hT.cells.1; have hb := (hb.trans' hg).trans' g2; clear hg g2) | (go_at_call 28; refine (hTe.out _ hb).mono ?_; rintro e w3 ⟨⟨u1, HU, rfl⟩, hg⟩; obtain rfl := HU.out; have hb := hb.trans' hg; clear hg))
      obtain ⟨wB, hwB⟩ : ∃ wB, wB = (w3.alloc (.cells #[.bool false, .string un] 29)).alloc (.cells #[.string v, .bool false, .string un] 32) := ⟨_, rfl⟩
      rw [← hwB]
      have HBB : RowKit.Hid (Bel w wB) := Lib.hid (by rw [hwB]; exact (hb.trans' (bel_alloc _ _)).trans' (bel_alloc _ _))
      have HX : RowKit.Hid (BindAt wB (w3.heap.size + 1) ⟨v, false, un⟩) := Lib.hid (by
        rw [hwB]
        have := BindAt.new (w3.alloc (.cells #[.bool false, .string un] 29)) ⟨v, false, un⟩
        rwa [show (w3.alloc (.cells #[.bool false, .string un] 29)).heap.size = w3.heap.size + 1 by simp] at this)
      clear hwB hC hBi hTe hT d1 d0 hb
      go_loopw [11, 13] (fun a11 i wr => ∃ (k : Nat) (out : List BindD) (q : Option Addr) (c : Nat), k ≤ l.length ∧ i = .int .i64 k ∧ a11 = .slice q out.length c ∧ out.length ≤ k ∧ RowKit.Hid (out = (l.take k).map (fun y => (⟨y.v, subT [⟨v, false, un⟩] y.t⟩ : BindD)) ∧ OB wB wr q c out)) (fun _ i _ => l.length - (intOf i).toNat)
      case atStart => exact ⟨0, [], none, 0, Nat.zero_le _, rfl, rfl, by simp, Lib.hid ⟨rfl, OB.nil _ (Below.refl _ _)⟩⟩
      case round =>
        obtain ⟨k, out, q, c, hk, rfl, rfl, hol, H⟩ := hrel
        have HO := Lib.hid H.out.2
        have HI := Lib.hid H.out.1
        clear H
        by_cases hlt : k < l.length
        · obtain ⟨b, o, rfl, hbb, hc⟩ := bl_get (HL.out.bel (HBB.out.trans' HO.out.bel)) (by omega)
          obtain ⟨c1, c2, c3⟩ := hc k hlt
          have hq : (0 : Int) ≤ k := by omega
          have hq2 : (k : Int) < l.length := by omega
          have HN := Lib.hid (HMA.out k hlt)
          have HLC : RowKit.Hid (∀ W, Bel wB W → W.cell? ⟨b, o + k * 3, none⟩ = some (.string l[k].v) ∧ W.cell? ⟨b, o + k * 3 + 1, none⟩ = some (.bool l[k].t.v) ∧ W.cell? ⟨b, o + k * 3 + 2, none⟩ = some (.string l[k].t.name)) := Lib.hid (fun W hg => by
            obtain ⟨b2, o2, e2, _, hc2⟩ := bl_get (HL.out.bel (HBB.out.trans' hg)) (by omega)
            injection e2 with e2
            injection e2 with e2 e3
            subst e2 e3
            exact hc2 k hlt)
          clear hc hbb
          generalize l[k] = y at c1 c2 c3 HN HLC
          obtain ⟨yv, yt⟩ := y
          simp only at c1 c2 c3
          have HOd : RowKit.Hid (OB wB wr.drew q c out) := Lib.hid (HO.out.bel' (bel_drew' (Below.refl _ _)))
          have hT := Lib.hid (rTerm4_any (some ⟨w3.heap.size + 1, 0, none⟩) [⟨v, false, un⟩] 1 1 rfl yt wr.drew ((HX.out.bel HOd.out.bel).slice) (by simp))
          go_wp2
          go_region_held3 (fun w' => w'.cell? ⟨b, o + k * 3, none⟩ = some (.string yv) ∧ w'.cell? ⟨b, o + k * 3 + 1, none⟩ = some (.bool yt.v) ∧ w'.cell? ⟨b, o + k * 3 + 2, none⟩ = some (.string yt.name)) (first | go_keep | trivial)
            (first | (go_at_call 28; refine hT.out.mono ?_; rintro e w4 ⟨⟨u, HU, rfl⟩, hg⟩; have HO4 := Lib.hid (HOd.out.bel' hg); have z1 : w4.cell? ⟨b, o + k * 3, none⟩ = some (.string yv) := cell_bel c1 ((bel_drew' (Below.refl _ _)).trans' hg); have z2 : w4.cell? ⟨b, o + k * 3 + 1, none⟩ = some (.bool yt.v) := cell_bel c2 ((bel_drew' (Below.refl _ _)).trans' hg); have z3 : w4.cell? ⟨b, o + k * 3 + 2, none⟩ = some (.string yt.name) := cell_bel c3 ((bel_drew' (Below.refl _ _)).trans' hg); clear hg) | ((refine step_pushes (by rfl) (.tmp 52) (.tmp 66) 23 Try.underlying23 (by rfl) (by rfl) (by rfl) (HO4.out.bel' (bel_alloc _ _)) ((BindAt.new w4 ⟨yv, u⟩).slice) (show List.length [_] = 1 from rfl) (by omega) ?_; intro q2 k2 w5 out2 HX2 HO5 _ _; have u1 := (HLC.out w5 HO5.out.bel).1; have u2 := (HLC.out w5 HO5.out.bel).2.1; have u3 := (HLC.out w5 HO5.out.bel).2.2)))
          all_goals go_wp2
          all_goals go_roundw
          all_goals first
            | (case rel => exact ⟨k + 1, out2, q2, k2, by omega, by go_num, rfl, (by rw [HX2.out, List.length_append, List.length_singleton]; omega), Lib.hid ⟨by rw [HX2.out, HN.out, HI.out, HU.out], HO5.out⟩⟩)
            | (simp [intOf]; omega)
        · obtain rfl : k = l.length := by omega
          have HF := Lib.hid HI.out
          have hX := HX.out.bel HO.out.bel
          have x1 : wr.cell? ⟨w3.heap.size + 1, 0, none⟩ = some (.string v) := hX.cells.1
          have x2 : wr.cell? ⟨w3.heap.size + 1, 1, none⟩ = some (.bool false) := hX.cells.2.1
          have x3 : wr.cell? ⟨w3.heap.size + 1, 2, none⟩ = some (.string un) := hX.cells.2.2
          have hP := Lib.hid (put_any q out out.length c rfl ⟨v, false, un⟩ wr (OwnL.slice EB HO.out) (by omega))
          go_wp2_with (go_at_call 56; refine hP.out.mono ?_; rintro e w6 ⟨⟨q3, c3, out3, HO3, HOB3, rfl⟩, hg⟩)
          go_ret2
          have HBW := Lib.hid (HBB.out.trans' HO.out.bel)
          exact ⟨⟨_, _, out3, 0, Lib.hid (by rw [HR.out, HO3.out, HF.out, List.take_length]), Lib.hid (HOB3.out.base HBW.out), rfl⟩, HBW.out.trans' hg⟩
    · go_enter Try.func25, Try.ntmps25
      go_wp2_with (first | (go_at_call 27; refine (hC.out _ hb).mono ?_; rintro e w1 ⟨rfl, hg⟩; have hT := hT.bel hg; have d1 : World.cell? _ _ = some (.string ts) := hT.cells.2; have hb := hb.trans' hg; clear hg) | (go_at_call 23; refine (hBi.out _ hb).mono ?_; rintro e w2 ⟨⟨t1, is1, hE, rfl⟩, hg⟩; obtain ⟨rfl, rfl⟩ := Prod.mk.inj hE.out; have g2 := bel_alloc w2 (.cells #[.bool t1.v, .string t1.name] 29); have hT := (hT.bel hg).bel g2; have d1 : World.cell? _ _ = some (.string ts) := hT.cells.2; have d0 : World.cell? _ _ = some (.bool tv) := hT.cells.1; have hb := (hb.trans' hg).trans' g2; clear hg g2) | (go_at_call 28; refine (hTe.out _ hb).mono ?_; rintro e w3 ⟨⟨u1, HU, rfl⟩, hg⟩; obtain rfl := HU.out; have hb := hb.trans' hg; clear hg))
      obtain ⟨wB, hwB⟩ : ∃ wB, wB = (w3.alloc (.cells #[.bool true, .string un] 29)).alloc (.cells #[.string v, .bool true, .string un] 32) := ⟨_, rfl⟩
      rw [← hwB]
      have HBB : RowKit.Hid (Bel w wB) := Lib.hid (by rw [hwB]; exact (hb.trans' (bel_alloc _ _)).trans' (bel_alloc _ _))
      have HX : RowKit.Hid (BindAt wB (w3.heap.size + 1) ⟨v, true, un⟩) := Lib.hid (by
        rw [hwB]
        have := BindAt.new (w3.alloc (.cells #[.bool true, .string un] 29)) ⟨v, true, un⟩
        rwa [show (w3.alloc (.cells #[.bool true, .string un] 29)).heap.size = w3.heap.size + 1 by simp] at this)
      clear hwB hC hBi hTe hT d1 d0 hb
      go_loopw [11, 13] (fun a11 i wr => ∃ (k : Nat) (out : List BindD) (q : Option Addr) (c : Nat), k ≤ l.length ∧ i = .int .i64 k ∧ a11 = .slice q out.length c ∧ out.length ≤ k ∧ RowKit.Hid (out = (l.take k).map (fun y => (⟨y.v, subT [⟨v, true, un⟩] y.t⟩ : BindD)) ∧ OB wB wr q c out)) (fun _ i _ => l.length - (intOf i).toNat)
      case atStart => exact ⟨0, [], none, 0, Nat.zero_le _, rfl, rfl, by simp, Lib.hid ⟨rfl, OB.nil _ (Below.refl _ _)⟩⟩
      case round =>
        obtain ⟨k, out, q, c, hk, rfl, rfl, hol, H⟩ := hrel
        have HO := Lib.hid H.out.2
        have HI := Lib.hid H.out.1
        clear H
        by_cases hlt : k < l.length
        · obtain ⟨b, o, rfl, hbb, hc⟩ := bl_get (HL.out.bel (HBB.out.trans' HO.out.bel)) (by omega)
          obtain ⟨c1, c2, c3⟩ := hc k hlt
          have hq : (0 : Int) ≤ k := by omega
          have hq2 : (k : Int) < l.length := by omega
          have HN := Lib.hid (HMA.out k hlt)
          have HLC : RowKit.Hid (∀ W, Bel wB W → W.cell? ⟨b, o + k * 3, none⟩ = some (.string l[k].v) ∧ W.cell? ⟨b, o + k * 3 + 1, none⟩ = some (.bool l[k].t.v) ∧ W.cell? ⟨b, o + k * 3 + 2, none⟩ = some (.string l[k].t.name)) := Lib.hid (fun W hg => by
            obtain ⟨b2, o2, e2, _, hc2⟩ := bl_get (HL.out.bel (HBB.out.trans' hg)) (by omega)
            injection e2 with e2
            injection e2 with e2 e3
            subst e2 e3
            exact hc2 k hlt)
          clear hc hbb
          generalize l[k] = y at c1 c2 c3 HN HLC
          obtain ⟨yv, yt⟩ := y
          simp only at c1 c2 c3
          have HOd : RowKit.Hid (OB wB wr.drew q c out) := Lib.hid (HO.out.bel' (bel_drew' (Below.refl _ _)))
          have hT := Lib.hid (rTerm4_any (some ⟨w3.heap.size + 1, 0, none⟩) [⟨v, true, un⟩] 1 1 rfl yt wr.drew ((HX.out.bel HOd.out.bel).slice) (by simp))
          go_wp2
          go_region_held3 (fun w' => w'.cell? ⟨b, o + k * 3, none⟩ = some (.string yv) ∧ w'.cell? ⟨b, o + k * 3 + 1, none⟩ = some (.bool yt.v) ∧ w'.cell? ⟨b, o + k * 3 + 2, none⟩ = some (.string yt.name)) (first | go_keep | trivial)
            (first | (go_at_call 28; refine hT.out.mono ?_; rintro e w4 ⟨⟨u, HU, rfl⟩, hg⟩; have HO4 := Lib.hid (HOd.out.bel' hg); have z1 : w4.cell? ⟨b, o + k * 3, none⟩ = some (.string yv) := cell_bel c1 ((bel_drew' (Below.refl _ _)).trans' hg); have z2 : w4.cell? ⟨b, o + k * 3 + 1, none⟩ = some (.bool yt.v) := cell_bel c2 ((bel_drew' (Below.refl _ _)).trans' hg); have z3 : w4.cell? ⟨b, o + k * 3 + 2, none⟩ = some (.string yt.name) := cell_bel c3 ((bel_drew' (Below.refl _ _)).trans' hg); clear hg) | ((refine step_pushes (by rfl) (.tmp 52) (.tmp 66) 23 Try.underlying23 (by rfl) (by rfl) (by rfl) (HO4.out.bel' (bel_alloc _ _)) ((BindAt.new w4 ⟨yv, u⟩).slice) (show List.length [_] = 1 from rfl) (by omega) ?_; intro q2 k2 w5 out2 HX2 HO5 _ _; have u1 := (HLC.out w5 HO5.out.bel).1; have u2 := (HLC.out w5 HO5.out.bel).2.1; have u3 := (HLC.out w5 HO5.out.bel).2.2)))
          all_goals go_wp2
          all_goals go_roundw
          all_goals first
            | (case rel => exact ⟨k + 1, out2, q2, k2, by omega, by go_num, rfl, (by rw [HX2.out, List.length_append, List.length_singleton]; omega), Lib.hid ⟨by rw [HX2.out, HN.out, HI.out, HU.out], HO5.out⟩⟩)
            | (simp [intOf]; omega)
        · obtain rfl : k = l.length := by omega
          have HF := Lib.hid HI.out
          have hX := HX.out.bel HO.out.bel
          have x1 : wr.cell? ⟨w3.heap.size + 1, 0, none⟩ = some (.string v) := hX.cells.1
          have x2 : wr.cell? ⟨w3.heap.size + 1, 1, none⟩ = some (.bool true) := hX.cells.2.1
          have x3 : wr.cell? ⟨w3.heap.size + 1, 2, none⟩ = some (.string un) := hX.cells.2.2
          have hP := Lib.hid (put_any q out out.length c rfl ⟨v, true, un⟩ wr (OwnL.slice EB HO.out) (by omega))
          go_wp2_with (go_at_call 56; refine hP.out.mono ?_; rintro e w6 ⟨⟨q3, c3, out3, HO3, HOB3, rfl⟩, hg⟩)
          go_ret2
          have HBW := Lib.hid (HBB.out.trans' HO.out.bel)
          exact ⟨⟨_, _, out3, 0, Lib.hid (by rw [HR.out, HO3.out, HF.out, List.take_length]), Lib.hid (HOB3.out.base HBW.out), rfl⟩, HBW.out.trans' hg⟩
end Go.Proofs.Ytdmdefdiglpgaaa
