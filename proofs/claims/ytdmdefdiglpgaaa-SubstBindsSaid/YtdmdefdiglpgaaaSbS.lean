/-
  The reference's list with one more binding. Conditions: as it says.
-/
import Derived.Test.YtdmdefdiglpgaaaSbR
namespace Go.Proofs.Ytdmdefdiglpgaaa
open Go.RowKit

theorem put_not : ∀ {l : List BindD} {b : BindD}, (∀ x ∈ l, ltS b.v x.v = false) → putB l b = l ++ [b]
  | [], b, _ => rfl
  | y :: l, b, h => by
    rw [putB_cons, if_neg (by simp [h y (List.mem_cons_self ..)]), put_not (fun x hx => h x (List.mem_cons_of_mem _ hx))]
    rfl
theorem put_app_in : ∀ {l : List BindD} {b : BindD} (y : BindD), (∃ x ∈ l, ltS b.v x.v = true) → putB (l ++ [y]) b = putB l b ++ [y]
  | [], b, y, h => by obtain ⟨x, hx, _⟩ := h; cases hx
  | z :: l, b, y, h => by
    rw [List.cons_append, putB_cons, putB_cons]
    by_cases hz : ltS b.v z.v = true
    · rw [if_pos hz, if_pos hz]; rfl
    · rw [if_neg hz, if_neg hz, put_app_in y (by
        obtain ⟨x, hx, hh⟩ := h
        rcases List.mem_cons.1 hx with rfl | hx
        · exact absurd hh hz
        · exact ⟨x, hx, hh⟩)]
      rfl
theorem put_app_new : ∀ {l : List BindD} {b y : BindD}, (∀ x ∈ l, ltS b.v x.v = false) → ltS b.v y.v = true → putB (l ++ [y]) b = l ++ [b] ++ [y]
  | [], b, y, _, h => by show (if ltS b.v y.v then b :: y :: [] else y :: putB [] b) = _; rw [if_pos h]; rfl
  | z :: l, b, y, h, hy => by
    rw [List.cons_append, putB_cons, if_neg (by simp [h z (List.mem_cons_self ..)]), put_app_new (fun x hx => h x (List.mem_cons_of_mem _ hx)) hy]
    rfl
def InvP (l : List BindD) (b : BindD) (k : Nat) (inn : Bool) (out : List BindD) : Prop :=
  if inn then (∃ x ∈ l.take k, ltS b.v x.v = true) ∧ out = putB (l.take k) b else (∀ x ∈ l.take k, ltS b.v x.v = false) ∧ out = l.take k
theorem take_one {l : List BindD} {k : Nat} {x : BindD} (h : l[k]? = some x) : l.take (k + 1) = l.take k ++ [x] := by rw [List.take_add_one, h]; rfl
theorem invP_zero (l : List BindD) (b : BindD) : InvP l b 0 false [] := by simp [InvP]
theorem invP_no {l : List BindD} {b : BindD} {k : Nat} {out : List BindD} {x : BindD} (hx : l[k]? = some x) (h : InvP l b k false out) (hn : ltS b.v x.v = false) : InvP l b (k + 1) false (out ++ [x]) := by
  unfold InvP at h ⊢
  simp only [Bool.false_eq_true, if_false] at h ⊢
  rw [take_one hx]
  refine ⟨fun y hy => ?_, by rw [h.2]⟩
  rcases List.mem_append.1 hy with hy | hy
  · exact h.1 y hy
  · obtain rfl := List.mem_singleton.1 hy; exact hn
theorem invP_new {l : List BindD} {b : BindD} {k : Nat} {out : List BindD} {x : BindD} (hx : l[k]? = some x) (h : InvP l b k false out) (hn : ltS b.v x.v = true) : InvP l b (k + 1) true (out ++ [b] ++ [x]) := by
  unfold InvP at h ⊢
  simp only [Bool.false_eq_true, if_false, if_true] at h ⊢
  rw [take_one hx]
  exact ⟨⟨x, by simp, hn⟩, by rw [put_app_new h.1 hn, h.2]⟩
theorem invP_in {l : List BindD} {b : BindD} {k : Nat} {out : List BindD} {x : BindD} (hx : l[k]? = some x) (h : InvP l b k true out) : InvP l b (k + 1) true (out ++ [x]) := by
  unfold InvP at h ⊢
  simp only [if_true] at h ⊢
  rw [take_one hx]
  refine ⟨?_, by rw [put_app_in x h.1, h.2]⟩
  obtain ⟨y, hy, hh⟩ := h.1
  exact ⟨y, List.mem_append_left _ hy, hh⟩
theorem invP_end_no {l : List BindD} {b : BindD} {out : List BindD} (h : InvP l b l.length false out) : putB l b = out ++ [b] := by
  unfold InvP at h
  simp only [Bool.false_eq_true, if_false, List.take_length] at h
  rw [put_not h.1, h.2]
theorem invP_end_in {l : List BindD} {b : BindD} {out : List BindD} (h : InvP l b l.length true out) : putB l b = out := by
  unfold InvP at h
  simp only [if_true, List.take_length] at h
  exact h.2.symm

set_option maxRecDepth 20000 in
set_option maxHeartbeats 8000000 in
theorem put_any (A : Option Addr) (l : List BindD) (n ca : Nat) (hn : l.length = n) (x : BindD) (w : World) (hL : BL w A ca l) (hl : l.length ≤ 1000000) :
    Calls Try.prog 56 #[.slice A n ca, .agg #[.string x.v, .bool x.t.v, .string x.t.name]] w fun e w' => (∃ q c out, RowKit.Hid (out = putB l x) ∧ RowKit.Hid (OB w w' q c out) ∧ e = .returned (.slice q out.length c)) ∧ Bel w w' := by
  subst hn
  obtain ⟨xv, tv, ts⟩ := x
  have hX : BindAt (w.alloc (.cells #[.string xv, .bool tv, .string ts] 32)) w.heap.size ⟨xv, tv, ts⟩ := BindAt.new w ⟨xv, tv, ts⟩
  have hb := bel_alloc w (.cells #[.string xv, .bool tv, .string ts] 32)
  have HL := Lib.hid (hL.bel hb)
  clear hL
  obtain ⟨w1, hw1⟩ : ∃ w1, w1 = w.alloc (.cells #[.string xv, .bool tv, .string ts] 32) := ⟨_, rfl⟩
  rw [← hw1] at hX HL hb
  have HX := Lib.hid hX
  have HB := Lib.hid hb
  clear hX hb
  go_enter Try.func56, Try.ntmps56
  go_wp2
  rw [← hw1]
  have HSZ : RowKit.Hid (w1.heap.size = w.heap.size + 1) := Lib.hid (by rw [hw1]; simp)
  clear hw1
  go_loopw [5, 6, 7] (fun a5 a6 i wr => ∃ (k : Nat) (out : List BindD) (q : Option Addr) (c : Nat) (inn : Bool), k ≤ l.length ∧ i = .int .i64 k ∧ a6 = .bool inn ∧ a5 = .slice q out.length c ∧ out.length ≤ k + k ∧ RowKit.Hid (InvP l ⟨xv, tv, ts⟩ k inn out ∧ OB w1 wr q c out)) (fun _ _ i _ => l.length - (intOf i).toNat)
  case atStart => exact ⟨0, [], none, 0, false, Nat.zero_le _, rfl, rfl, rfl, by simp, Lib.hid ⟨invP_zero _ _, OB.nil _ (Below.refl _ _)⟩⟩
  case round =>
    obtain ⟨k, out, q, c, inn, hk, rfl, rfl, rfl, hol, H⟩ := hrel
    have HO := Lib.hid H.out.2
    have HI := Lib.hid H.out.1
    clear H
    have hol2 : out.length ≤ 2000000 := by omega
    have hX := HX.out.bel HO.out.bel
    have x1 : wr.cell? ⟨w.heap.size, 0, none⟩ = some (.string xv) := hX.cells.1
    have x2 : wr.cell? ⟨w.heap.size, 1, none⟩ = some (.bool tv) := hX.cells.2.1
    have x3 : wr.cell? ⟨w.heap.size, 2, none⟩ = some (.string ts) := hX.cells.2.2
    by_cases hlt : k < l.length
    · obtain ⟨b, o, rfl, hbb, hc⟩ := bl_get (HL.out.bel HO.out.bel) (by omega)
      obtain ⟨c1, c2, c3⟩ := hc k hlt
      have hq : (0 : Int) ≤ k := by omega
      have hq2 : (k : Int) < l.length := by omega
      have HAT := Lib.hid (List.getElem?_eq_getElem hlt)
      clear hc hbb
      generalize l[k] = y at c1 c2 c3 HAT
      obtain ⟨yv, yb, yn⟩ := y
      simp only at c1 c2 c3
      cases inn
      · have hcmp : (Op.bytesLess yv.toList xv.toList = true) ∨ (Op.bytesLess yv.toList xv.toList = false ∧ (yv.toList == xv.toList) = true) ∨ (Op.bytesLess yv.toList xv.toList = false ∧ (yv.toList == xv.toList) = false ∧ Op.bytesLess xv.toList yv.toList = true) := by
          cases h2 : Op.bytesLess yv.toList xv.toList
          · by_cases e : yv = xv
            · exact .inr (.inl ⟨rfl, toList_eq e⟩)
            · refine .inr (.inr ⟨rfl, toList_ne e, ?_⟩)
              cases h3 : Op.bytesLess xv.toList yv.toList
              · exact absurd (ltS_tri h2 h3) e
              · rfl
          · exact .inl rfl
        rcases hcmp with h2 | ⟨h2, he⟩ | ⟨h2, he, hv⟩
        · have HN := Lib.hid (invP_no HAT.out HI.out (ltS_asymm h2))
          go_wp2
          go_quiet (fail)
          have HOq := Lib.hid (HO.out.bel' (bel_drewN wr nq))
          have c1 := cell_bel c1 (bel_drewN wr nq)
          have c2 := cell_bel c2 (bel_drewN wr nq)
          have c3 := cell_bel c3 (bel_drewN wr nq)
          have x1 := cell_bel x1 (bel_drewN wr nq)
          have x2 := cell_bel x2 (bel_drewN wr nq)
          have x3 := cell_bel x3 (bel_drewN wr nq)
          generalize wr.drewN nq = wq at HOq c1 c2 c3 x1 x2 x3 ⊢
          go_wp2_with (at_builtin; refine wpList_push rfl (.tmp 30) (.tmp 35) 23 Try.underlying23 rfl ⟨yv, yb, yn⟩ rfl rfl HOq.out hol2 ?_; intro q' c' w5 out' HX' HO')
          go_roundw
          case rel => exact ⟨k + 1, out', q', c', false, by omega, by go_num, rfl, rfl, (by rw [HX'.out, List.length_append]; simp; omega), Lib.hid ⟨by rw [HX'.out]; exact HN.out, HO'.out⟩⟩
          case measure => simp [intOf]; omega
        · have HN := Lib.hid (invP_no HAT.out HI.out (show ltS xv yv = false from (by have : yv = xv := ba_ext (by simpa using he); rw [this]; exact ltS_irr _)))
          go_wp2
          go_quiet (fail)
          have HOq := Lib.hid (HO.out.bel' (bel_drewN wr nq))
          have c1 := cell_bel c1 (bel_drewN wr nq)
          have c2 := cell_bel c2 (bel_drewN wr nq)
          have c3 := cell_bel c3 (bel_drewN wr nq)
          have x1 := cell_bel x1 (bel_drewN wr nq)
          have x2 := cell_bel x2 (bel_drewN wr nq)
          have x3 := cell_bel x3 (bel_drewN wr nq)
          generalize wr.drewN nq = wq at HOq c1 c2 c3 x1 x2 x3 ⊢
          go_wp2_with (at_builtin; refine wpList_push rfl (.tmp 30) (.tmp 35) 23 Try.underlying23 rfl ⟨yv, yb, yn⟩ rfl rfl HOq.out hol2 ?_; intro q' c' w5 out' HX' HO')
          go_roundw
          case rel => exact ⟨k + 1, out', q', c', false, by omega, by go_num, rfl, rfl, (by rw [HX'.out, List.length_append]; simp; omega), Lib.hid ⟨by rw [HX'.out]; exact HN.out, HO'.out⟩⟩
          case measure => simp [intOf]; omega
        · have HN := Lib.hid (invP_new HAT.out HI.out hv)
          clear hv
          go_wp2
          go_quiet (fail)
          have HOq := Lib.hid (HO.out.bel' (bel_drewN wr nq))
          have c1 := cell_bel c1 (bel_drewN wr nq)
          have c2 := cell_bel c2 (bel_drewN wr nq)
          have c3 := cell_bel c3 (bel_drewN wr nq)
          have x1 := cell_bel x1 (bel_drewN wr nq)
          have x2 := cell_bel x2 (bel_drewN wr nq)
          have x3 := cell_bel x3 (bel_drewN wr nq)
          generalize wr.drewN nq = wq at HOq c1 c2 c3 x1 x2 x3 ⊢
          have HCC : RowKit.Hid (∀ W, Bel w1 W → W.cell? ⟨b, o + k * 3, none⟩ = some (.string yv) ∧ W.cell? ⟨b, o + k * 3 + 1, none⟩ = some (.bool yb) ∧ W.cell? ⟨b, o + k * 3 + 2, none⟩ = some (.string yn)) := Lib.hid (fun W hg => by
            obtain ⟨b2, o2, e2, _, hc2⟩ := bl_get (HL.out.bel hg) (by omega)
            injection e2 with e2
            injection e2 with e2 e3
            subst e2 e3
            have hy : l[k] = ⟨yv, yb, yn⟩ := by have := HAT.out; rw [List.getElem?_eq_getElem hlt] at this; injection this
            have := hc2 k hlt
            rw [hy] at this
            exact this)
          go_wp2_with (first | (at_builtin; refine wpList_push rfl (.tmp 26) (.tmp 28) 23 Try.underlying23 rfl ⟨xv, tv, ts⟩ rfl rfl HOq.out hol2 ?_; intro q1 c1' w5 out1 HX1 HO1; have k1 := (HCC.out _ HO1.out.bel).1; have k2 := (HCC.out _ HO1.out.bel).2.1; have k3 := (HCC.out _ HO1.out.bel).2.2; have hol1 := Nat.le_of_eq (show out1.length = out.length + 1 from (by rw [HX1.out, List.length_append]; rfl))) | (at_builtin; refine wpList_push rfl (.tmp 30) (.tmp 35) 23 Try.underlying23 rfl ⟨yv, yb, yn⟩ rfl rfl HO1.out (by omega) ?_; intro q' c' w6 out' HX' HO'))
          go_roundw
          case rel => exact ⟨k + 1, out', q', c', true, by omega, by go_num, rfl, rfl, (by rw [HX'.out, List.length_append]; simp; omega), Lib.hid ⟨by rw [HX'.out, HX1.out]; exact HN.out, HO'.out⟩⟩
          case measure => simp [intOf]; omega
      · have HN := Lib.hid (invP_in HAT.out HI.out)
        go_wp2
        go_quiet (fail)
        have HOq := Lib.hid (HO.out.bel' (bel_drewN wr nq))
        have c1 := cell_bel c1 (bel_drewN wr nq)
        have c2 := cell_bel c2 (bel_drewN wr nq)
        have c3 := cell_bel c3 (bel_drewN wr nq)
        have x1 := cell_bel x1 (bel_drewN wr nq)
        have x2 := cell_bel x2 (bel_drewN wr nq)
        have x3 := cell_bel x3 (bel_drewN wr nq)
        generalize wr.drewN nq = wq at HOq c1 c2 c3 x1 x2 x3 ⊢
        go_wp2_with (at_builtin; refine wpList_push rfl (.tmp 30) (.tmp 35) 23 Try.underlying23 rfl ⟨yv, yb, yn⟩ rfl rfl HOq.out hol2 ?_; intro q' c' w5 out' HX' HO')
        go_roundw
        case rel => exact ⟨k + 1, out', q', c', true, by omega, by go_num, rfl, rfl, (by rw [HX'.out, List.length_append]; simp; omega), Lib.hid ⟨by rw [HX'.out]; exact HN.out, HO'.out⟩⟩
        case measure => simp [intOf]; omega
    · obtain rfl : k = l.length := by omega
      have HBW : RowKit.Hid (Bel w w1) := HB
      cases inn
      · have HE := Lib.hid (invP_end_no HI.out)
        go_wp2_with (at_builtin; refine wpList_push rfl (.tmp 39) (.tmp 41) 23 Try.underlying23 rfl ⟨xv, tv, ts⟩ rfl rfl HO.out hol2 ?_; intro q1 c1' w5 out1 HX1 HO1)
        go_ret
        exact ⟨⟨_, _, out1, Lib.hid (HX1.out.trans HE.out.symm), Lib.hid (HO1.out.base HBW.out), rfl⟩, HBW.out.trans' HO1.out.bel⟩
      · have HE := Lib.hid (invP_end_in HI.out)
        go_wp2
        go_ret
        exact ⟨⟨_, _, out, Lib.hid HE.out.symm, Lib.hid (HO.out.base HBW.out), rfl⟩, HBW.out.trans' HO.out.bel⟩
end Go.Proofs.Ytdmdefdiglpgaaa
