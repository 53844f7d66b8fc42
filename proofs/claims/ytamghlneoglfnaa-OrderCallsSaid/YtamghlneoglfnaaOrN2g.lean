/-
  The reference's Sorted. Conditions: as each says.
-/
import Derived.Test.YtamghlneoglfnaaOrN1
namespace Go.Proofs.Ytamghlneoglfnaa
open Go.RowKit

section
variable {ops : Array Oper} {o : Oper} {a : Act} {K : Act → World → Prop} {Q : Exit → Act → World → Prop} {E : Prop} {W : World}
/-- append of one item, made new, inside a region -/
theorem step_pushA (hgd : o.guard = none) (s x : Operand) (ho : o.op = .call { callee := .builtin .append, args := #[s, x], argTypes := #[29, 29] })
    {w : World} {q : Option Addr} {c g : Nat} {out : List AtomD} (b : AtomD) (hs : a.eval s = .slice q out.length c) (hx : a.eval x = .slice (some ⟨g, 0, none⟩) 1 1) (hO : OA w W q c out) (hN : AL W (some ⟨g, 0, none⟩) 1 [b]) (hl : out.length ≤ 2000000)
    (h : ∀ q' c' w', RowKit.Hid (OA w w' q' c' (out ++ [b])) → K (a.put o.dst (.slice q' (out.length + 1) c')) w') :
    if Region.wanted o (yielded ops a.tmps) = true then Oper.wp Try.prog o a W K Q else E := by
  obtain ⟨i0, hi, hz0, hz1, hz2⟩ := info_A
  refine step_append_mine W hgd s x 29 ho 27 i0 _ 11 136 Try.underlying29 hi hz0 hz1 hz2 rfl (by decide) (.slice q out.length c) out.length (flatL encA out) hs hO.row _ 1 1 (encA b) hx rfl (fun j u hu => al_loadAny hN j u (by rw [flat_one]; exact hu)) (EA.one b) (by unfold maxLen; omega) (by omega) ?_
  intro v2 w2 ho2 hf2 hn2
  have hP := OwnL.push (x := b) hO (Below.refl _ _) ho2 hf2 hn2
  obtain ⟨q', c', rfl⟩ := hP.value
  have := h q' c' w2 (Lib.hid hP)
  rw [List.length_append, List.length_singleton]
  exact this
end
/-- the tail of a list in memory -/
theorem al_tail1 {w : World} {b o : Nat} {x : AtomD} {l : List AtomD} (h : AL w (some ⟨b, o, none⟩) 1 (x :: l)) : l = [] := by
  have := h.le
  simp at this
  exact this
theorem al_tail {w : World} {b o ca : Nat} {x : AtomD} {l : List AtomD} (h : AL w (some ⟨b, o, none⟩) ca (x :: l)) : AL w (some ⟨b, o + 11, none⟩) (ca - 1) l := by
  have := al_drop h (i := 1) (by simp)
  simpa using this
/-- what is left of a slice behind its first item: its place -/
def tailP (A : Option Addr) (ca : Nat) : Option Addr := if ca = 1 then A else A.map (·.add (1 * 11))
theorem al_next {w : World} {A : Option Addr} {ca : Nat} {x : AtomD} {l : List AtomD} (h : AL w A ca (x :: l)) : AL w (tailP A ca) (ca - 1) l := by
  obtain ⟨b, o, rfl⟩ := SliceAt.pos h (by simp)
  unfold tailP
  by_cases h1 : ca = 1
  · subst h1
    rw [if_pos rfl, al_tail1 h]
    exact SliceAt.zero w _
  · rw [if_neg h1]
    show AL w (some ((⟨b, o, none⟩ : Addr).add (1 * 11))) _ _
    rw [addr_at]
    exact al_tail h
theorem run_tail (b o n ca : Nat) (hn : 1 ≤ n) (w : World) : (Instr.slice 29 (.slice (some ⟨b, o, none⟩) n ca) (some (.int .i64 1)) none none).run Try.prog w = .ok (.slice (tailP (some ⟨b, o, none⟩) ca) (n - 1) (ca - 1)) w := by
  have h := run_slice_l (P := Try.prog) w 29 (some ⟨b, o, none⟩) n ca (by rw [show Try.prog.elem 29 = 27 from by kernel_rfl]; exact Try.underlying29) .i64 1 (by omega) (by omega)
  rw [h, show Try.prog.elem 29 = 27 from by kernel_rfl, Try.sizeOf27]
  rfl
theorem first_cells {w : World} {b o ca : Nat} {x : AtomD} {l : List AtomD} (h : AL w (some ⟨b, o, none⟩) ca (x :: l)) : ∀ W, Bel w W → (W.cell? ⟨b, o, none⟩ = some (.string x.says) ∧ W.cell? ⟨b, o + 1, none⟩ = some (.string x.pred) ∧ W.cell? ⟨b, o + 2, none⟩ = some (.int .i64 x.n) ∧ W.cell? ⟨b, o + 3, none⟩ = some (.bool x.t0.v) ∧ W.cell? ⟨b, o + 4, none⟩ = some (.string x.t0.name) ∧ W.cell? ⟨b, o + 5, none⟩ = some (.bool x.t1.v) ∧ W.cell? ⟨b, o + 6, none⟩ = some (.string x.t1.name) ∧ W.cell? ⟨b, o + 7, none⟩ = some (.bool x.t2.v) ∧ W.cell? ⟨b, o + 8, none⟩ = some (.string x.t2.name) ∧ W.cell? ⟨b, o + 9, none⟩ = some (.bool x.t3.v) ∧ W.cell? ⟨b, o + 10, none⟩ = some (.string x.t3.name)) := fun W hg => by
  have := al_later h (k := 0) (by simp) W hg
  simpa using this
theorem merge_lt {x y : AtomD} {l m : List AtomD} (h : ltA x y = true) : mergeD (x :: l) (y :: m) = x :: mergeD l (y :: m) := by rw [merge_cons, if_pos h]
theorem merge_gt {x y : AtomD} {l m : List AtomD} (h : ltA y x = true) : mergeD (x :: l) (y :: m) = y :: mergeD (x :: l) m := by rw [merge_cons, if_neg (by rw [ltA_asymm h]; decide), if_pos h]
theorem merge_eq {x y : AtomD} {l m : List AtomD} (h1 : ltA x y = false) (h2 : ltA y x = false) : mergeD (x :: l) (y :: m) = mergeD (x :: l) m := by rw [merge_cons, if_neg (by rw [h1]; decide), if_neg (by rw [h2]; decide)]
theorem sorted_short {l : List AtomD} (h : l.length < 2) : sortedD l = l := sorted_id (asc_short (by omega))
set_option maxHeartbeats 2000000 in
theorem rSortedS (A : Option Addr) (l : List AtomD) (n ca : Nat) (hn : l.length = n) (h2 : n < 2) (w : World) (hL : AL w A ca l) :
    Calls Try.prog 26 #[.slice A n ca] w fun e w' => (∃ q c, RowKit.Hid (OA w w' q c (sortedD l)) ∧ e = .returned (.slice q (sortedD l).length c)) ∧ Bel w w' := by
  rw [sorted_short (by omega)]
  have HL := Lib.hid hL
  have hb := bel_alloc w (.cells #[] 27)
  have ho0 : (w.alloc (.cells #[] 27)).ownsRow 0 27 11 (.slice (some ⟨w.heap.size, 0, none⟩) 0 0) 0 [] := World.ownsRow_lit (base := 0) (e := 27) (size := 11) w #[] 0 (Nat.zero_le _) (by unfold maxLen; omega) (by simp)
  have hO : OA w (w.alloc (.cells #[] 27)) (some ⟨w.heap.size, 0, none⟩) 0 [] := ⟨ho0, hb, fun g hg => by simp [Value.ownBlock] at hg; omega⟩
  have HO := Lib.hid hO
  have h3 : (n : Int) < 2 := by omega
  clear ho0 hO hL
  subst hn
  go_enter Try.func26, Try.ntmps26
  go_wp2_with (at_builtin; refine wpList_catA rfl (.tmp 11) (.tmp 12) rfl rfl rfl HO.out rfl (HL.out.bel hb) rfl (by omega) ?_; intro q5 c5 w5 HO5)
  go_ret
  exact ⟨⟨q5, c5, Lib.hid (by have := HO5.out; rwa [List.nil_append] at this), by simp⟩, HO5.out.bel⟩
set_option maxRecDepth 20000 in
set_option maxHeartbeats 16000000 in
theorem rSortedN : ∀ (N : Nat) (A : Option Addr) (l : List AtomD) (n ca : Nat) (_hn : l.length = n) (_hN : n ≤ N) (w : World) (_hL : AL w A ca l) (_hl : n ≤ 100000) (_hs : SmA l),
    Calls Try.prog 26 #[.slice A n ca] w fun e w' => (∃ q c, RowKit.Hid (OA w w' q c (sortedD l)) ∧ e = .returned (.slice q (sortedD l).length c)) ∧ Bel w w' := by
  intro N
  induction N with
  | zero =>
    intro A l n ca hn hN w hL hl hs
    obtain rfl : l = [] := List.eq_nil_of_length_eq_zero (by omega)
    exact rSortedS A [] n ca hn (by omega) w hL
  | succ N ih =>
    intro A l n ca hn hN w hL hl hs
    by_cases h2 : n < 2
    · exact rSortedS A l n ca hn h2 w hL
    have HL := Lib.hid hL
    obtain ⟨b, o, rfl⟩ := SliceAt.pos hL (by omega)
    have hca : n ≤ ca := by have := hL.le; omega
    obtain ⟨h, hh⟩ : ∃ h, h = n / 2 := ⟨_, rfl⟩
    have hh1 : 1 ≤ h := by omega
    have hh2 : h < n := by omega
    have hl1 : (l.take h).length = h := by rw [List.length_take]; omega
    have hl2 : (l.drop h).length = n - h := by rw [List.length_drop]; omega
    have HI1 := Lib.hid (fun W (hg : Bel w W) => ih (some ⟨b, o, none⟩) (l.take h) h ca hl1 (by omega) W ((HL.out.take h).bel hg) (by omega) (fun x hx => hs x (List.mem_of_mem_take hx)))
    have HI2 := Lib.hid (fun W (hg : Bel w W) => ih (some ⟨b, o + h * 11, none⟩) (l.drop h) (n - h) (ca - h) hl2 (by omega) W ((al_drop HL.out (by omega)).bel hg) (by omega) (fun x hx => hs x (List.mem_of_mem_drop hx)))
    obtain ⟨sa, hsa⟩ : ∃ s, s = sortedD (l.take h) := ⟨_, rfl⟩
    obtain ⟨sb, hsb⟩ : ∃ s, s = sortedD (l.drop h) := ⟨_, rfl⟩
    have hsal : sa.length ≤ 100000 := by rw [hsa]; have := sorted_lenA (l.take h); omega
    have hsbl : sb.length ≤ 100000 := by rw [hsb]; have := sorted_lenA (l.drop h); omega
    have HT : RowKit.Hid (mergeD sa sb = sortedD l) := Lib.hid (by rw [hsa, hsb]; exact sorted_halves l h)
    have HSA : RowKit.Hid (SmA sa) := Lib.hid (by rw [hsa]; exact sm_sorted (fun x hx => hs x (List.mem_of_mem_take hx)))
    have HSB : RowKit.Hid (SmA sb) := Lib.hid (by rw [hsb]; exact sm_sorted (fun x hx => hs x (List.mem_of_mem_drop hx)))
    have hsTl : (sortedD l).length ≤ 100000 := by have := sorted_lenA l; omega
    simp only [← hsa] at HI1
    simp only [← hsb] at HI2
    obtain ⟨T, hT⟩ : ∃ T, T = sortedD l := ⟨_, rfl⟩
    rw [← hT] at HT hsTl ⊢
    have q1 : ¬ (n : Int) < 2 := by omega
    have q2 : (n : Int) / 2 = (h : Int) := by omega
    have q3 : (0 : Int) ≤ h := by omega
    have q4 : (h : Int) ≤ n := by omega
    have q5 : (h : Int) ≤ ca := by omega
    have q6 : ¬ ca = h := by omega
    have q7 : Int.tdiv (n : Int) 2 = (h : Int) := by rw [Int.tdiv_eq_ediv_of_nonneg (by omega)]; exact q2
    have q8 : IntKind.i64.wrap (h : Int) = h := IntWalk.i64_in _ (by omega)
    have hd : Bel w w.drew := bel_drew' (Below.refl _ _)
    clear ih hs hL hsa hsb hT hh hN hl1 hl2 h2
    go_enter Try.func26, Try.ntmps26
    go_wp2
    go_region_held3 (fun w' => True) (first | trivial | go_keep)
      (first | (go_at_call 26; have gate := HI1; refine (HI1.out _ hd).mono ?_; rintro e w1 ⟨⟨qa0, ka0, HOa, rfl⟩, hg⟩; replace hd := hd.trans' hg; (try replace HBx := Lib.hid (HBx.out.bel hg)); have HAx := Lib.hid (al_own HOa.out); clear hg gate HI1 HOa) | (go_at_call 26; have gate := HI2; refine (HI2.out _ hd).mono ?_; rintro e w2 ⟨⟨qb0, kb0, HOb, rfl⟩, hg⟩; replace hd := hd.trans' hg; (try replace HAx := Lib.hid (HAx.out.bel hg)); have HBx := Lib.hid (al_own HOb.out); clear hg gate HI2 HOb))
    all_goals
      have HB0 := Lib.hid hd
      clear hd
      go_wp2
      go_loopw [4, 5, 6] (fun s4 s5 s6 wr => ∃ (la lb out : List AtomD) (qa qb qo : Option Addr) (ka kb ko : Nat), s4 = .slice qa la.length ka ∧ s5 = .slice qb lb.length kb ∧ s6 = .slice qo out.length ko ∧ la.length ≤ 100000 ∧ lb.length ≤ 100000 ∧ out.length + (mergeD la lb).length ≤ 100000 ∧ RowKit.Hid (out ++ mergeD la lb = T) ∧ RowKit.Hid (AL w2 qa ka la) ∧ RowKit.Hid (AL w2 qb kb lb) ∧ RowKit.Hid (SmA la ∧ SmA lb) ∧ RowKit.Hid (OA w2 wr qo ko out)) (fun s4 s5 _ _ => (match s4 with | .slice _ n _ => n | _ => 0) + (match s5 with | .slice _ n _ => n | _ => 0))
      case atStart => exact ⟨sa, sb, [], qa0, qb0, none, ka0, kb0, 0, rfl, rfl, rfl, hsal, hsbl, by rw [HT.out]; simpa using hsTl, Lib.hid (by rw [List.nil_append]; exact HT.out), HAx, HBx, Lib.hid ⟨HSA.out, HSB.out⟩, Lib.hid (OA.nil w2 (Below.refl _ _))⟩
      case round =>
        obtain ⟨la, lb, out, qa, qb, qo, ka, kb, ko, rfl, rfl, rfl, hla, hlb, hlo, HE, HA, HBB, HSM, HO⟩ := hrel
        clear HAx HBx HT HSA HSB
        cases la with
        | nil =>
          have HE2 : RowKit.Hid (out ++ [] ++ lb = T) := Lib.hid (by have := HE.out; rw [merge_nilL] at this; simpa using this)
          go_wp2_with (at_builtin; first | (refine wpList_catA rfl (.tmp 64) (.tmp 65) rfl rfl rfl HO.out rfl (HA.out.bel HO.out.bel) rfl (by (try simp only [List.length_cons, List.length_nil]); omega) ?_; intro q1 k1 w3 HO1) | (refine wpList_catA rfl (.tmp 66) (.tmp 67) rfl rfl rfl HO1.out (by simp) (HBB.out.bel HO1.out.bel) rfl (by (try simp only [List.length_cons, List.length_nil]); omega) ?_; intro q2 k2 w4 HO2))
          have HF := Lib.hid (HE2.out)
          rw [HE2.out] at HO2
          go_ret
          exact ⟨⟨q2, k2, Lib.hid ⟨HO2.out.row, HB0.out.trans' HO2.out.bel, fun g h => by have := HO2.out.new g h; have := HB0.out.size; omega⟩, by rw [← HE2.out]; simp⟩, HB0.out.trans' HO2.out.bel⟩
        | cons x la =>
          have hla2 : la.length + 1 ≤ 100000 := hla
          cases lb with
          | nil =>
            have HE2 : RowKit.Hid (out ++ (x :: la) ++ [] = T) := Lib.hid (by have := HE.out; rw [merge_nilR] at this; simpa using this)
            go_wp2_with (at_builtin; first | (refine wpList_catA rfl (.tmp 64) (.tmp 65) rfl rfl rfl HO.out rfl (HA.out.bel HO.out.bel) rfl (by (try simp only [List.length_cons, List.length_nil]); omega) ?_; intro q1 k1 w3 HO1) | (refine wpList_catA rfl (.tmp 66) (.tmp 67) rfl rfl rfl HO1.out (by simp) (HBB.out.bel HO1.out.bel) rfl (by (try simp only [List.length_cons, List.length_nil]); omega) ?_; intro q2 k2 w4 HO2))
            have HF := Lib.hid (HE2.out)
            rw [HE2.out] at HO2
            go_ret
            exact ⟨⟨q2, k2, Lib.hid ⟨HO2.out.row, HB0.out.trans' HO2.out.bel, fun g h => by have := HO2.out.new g h; have := HB0.out.size; omega⟩, by rw [← HE2.out]; simp⟩, HB0.out.trans' HO2.out.bel⟩
          | cons y lb =>
            obtain ⟨ba, oa, rfl⟩ := SliceAt.pos HA.out (by simp)
            obtain ⟨bb, ob, rfl⟩ := SliceAt.pos HBB.out (by simp)
            have HCX := Lib.hid (first_cells HA.out)
            have HCY := Lib.hid (first_cells HBB.out)
            have sx := HSM.out.1 x (by simp)
            have sy := HSM.out.2 y (by simp)
            have HSL : RowKit.Hid (SmA la ∧ SmA lb) := Lib.hid ⟨fun z hz => HSM.out.1 z (by simp [hz]), fun z hz => HSM.out.2 z (by simp [hz])⟩
            have HC := Lib.hid (fun W => rCompare_any x y W sx sy)
            have HLE := HA.out.le
            have HLF := HBB.out.le
            simp only [List.length_cons] at HLE HLF
            have r1 : (0 : Int) < ((la.length + 1 : Nat) : Int) := by omega
            have r2 : (0 : Int) < ((lb.length + 1 : Nat) : Int) := by omega
            have r3 : (1 : Int) ≤ ((la.length + 1 : Nat) : Int) := by omega
            have r4 : (1 : Int) ≤ ((lb.length + 1 : Nat) : Int) := by omega
            have hr : Bel w2 wr := HO.out.bel
            have r5 : (1 : Int) ≤ (la.length : Int) + 1 := by omega
            have r6 : (1 : Int) ≤ (lb.length : Int) + 1 := by omega
            have hd : Bel w2 wr.drew := hr.trans' (bel_drew' (Below.refl _ _))
            obtain ⟨c0, c1, c2, c3, c4, c5, c6, c7, c8, c9, c10⟩ := HCX.out _ hd
            obtain ⟨d0, d1, d2, d3, d4, d5, d6, d7, d8, d9, d10⟩ := HCY.out _ hd
            have hg0 : Bel wr wr.drew := bel_drew' (Below.refl _ _)
            rcases cmp_cases x y with hc | hc | hc
            · have HM := Lib.hid (merge_lt (l := la) (m := lb) (cmp_lt.1 hc))
              rw [hc] at HC
              clear hc
              go_wp2
              go_region_held3 (fun w' => (w'.cell? ⟨ba, oa, none⟩ = some (.string x.says) ∧ w'.cell? ⟨ba, oa + 1, none⟩ = some (.string x.pred) ∧ w'.cell? ⟨ba, oa + 2, none⟩ = some (.int .i64 x.n) ∧ w'.cell? ⟨ba, oa + 3, none⟩ = some (.bool x.t0.v) ∧ w'.cell? ⟨ba, oa + 4, none⟩ = some (.string x.t0.name) ∧ w'.cell? ⟨ba, oa + 5, none⟩ = some (.bool x.t1.v) ∧ w'.cell? ⟨ba, oa + 6, none⟩ = some (.string x.t1.name) ∧ w'.cell? ⟨ba, oa + 7, none⟩ = some (.bool x.t2.v) ∧ w'.cell? ⟨ba, oa + 8, none⟩ = some (.string x.t2.name) ∧ w'.cell? ⟨ba, oa + 9, none⟩ = some (.bool x.t3.v) ∧ w'.cell? ⟨ba, oa + 10, none⟩ = some (.string x.t3.name)) ∧ (w'.cell? ⟨bb, ob, none⟩ = some (.string y.says) ∧ w'.cell? ⟨bb, ob + 1, none⟩ = some (.string y.pred) ∧ w'.cell? ⟨bb, ob + 2, none⟩ = some (.int .i64 y.n) ∧ w'.cell? ⟨bb, ob + 3, none⟩ = some (.bool y.t0.v) ∧ w'.cell? ⟨bb, ob + 4, none⟩ = some (.string y.t0.name) ∧ w'.cell? ⟨bb, ob + 5, none⟩ = some (.bool y.t1.v) ∧ w'.cell? ⟨bb, ob + 6, none⟩ = some (.string y.t1.name) ∧ w'.cell? ⟨bb, ob + 7, none⟩ = some (.bool y.t2.v) ∧ w'.cell? ⟨bb, ob + 8, none⟩ = some (.string y.t2.name) ∧ w'.cell? ⟨bb, ob + 9, none⟩ = some (.bool y.t3.v) ∧ w'.cell? ⟨bb, ob + 10, none⟩ = some (.string y.t3.name))) (first | exact ⟨HCX.out _ hd, HCY.out _ hd⟩ | go_keep | trivial)
                (first | (go_at_call 21; refine (HC.out _).mono ?_; rintro e w9 ⟨rfl, hg⟩; replace hd := hd.trans' hg; replace hg0 := hg0.trans' hg; clear hg))
              all_goals
                clear c0 c1 c2 c3 c4 c5 c6 c7 c8 c9 c10 d0 d1 d2 d3 d4 d5 d6 d7 d8 d9 d10 HC hr
                have HO9 := Lib.hid (HO.out.bel' hg0)
                have hcur0 := hd
                have hcur : Bel w2 w9.drew := hd.trans' (bel_drew' (Below.refl _ _))
                obtain ⟨c0, c1, c2, c3, c4, c5, c6, c7, c8, c9, c10⟩ := HCX.out _ hcur
                by_cases h1 : ka = 1
                · skip
                  subst h1
                  obtain rfl : la = [] := al_tail1 HA.out
                  go_wp2
                  go_region_held3 (fun w' => (w'.cell? ⟨ba, oa, none⟩ = some (.string x.says) ∧ w'.cell? ⟨ba, oa + 1, none⟩ = some (.string x.pred) ∧ w'.cell? ⟨ba, oa + 2, none⟩ = some (.int .i64 x.n) ∧ w'.cell? ⟨ba, oa + 3, none⟩ = some (.bool x.t0.v) ∧ w'.cell? ⟨ba, oa + 4, none⟩ = some (.string x.t0.name) ∧ w'.cell? ⟨ba, oa + 5, none⟩ = some (.bool x.t1.v) ∧ w'.cell? ⟨ba, oa + 6, none⟩ = some (.string x.t1.name) ∧ w'.cell? ⟨ba, oa + 7, none⟩ = some (.bool x.t2.v) ∧ w'.cell? ⟨ba, oa + 8, none⟩ = some (.string x.t2.name) ∧ w'.cell? ⟨ba, oa + 9, none⟩ = some (.bool x.t3.v) ∧ w'.cell? ⟨ba, oa + 10, none⟩ = some (.string x.t3.name))) (first | exact HCX.out _ hcur | exact HCX.out _ (hcur0.trans' ((bel_alloc _ _).trans' (bel_drew' (Below.refl _ _)))) | go_keep | trivial)
                    (first | ((refine step_pushA (by rfl) (.tmp 45) (.tmp 49) (by rfl) x (by rfl) (by rfl) (HO9.out.bel' ((bel_alloc _ _).trans' (bel_drew' (Below.refl _ _)))) ((SliceAt.lit EA _ 27 [x] #[.string x.says, .string x.pred, .int .i64 x.n, .bool x.t0.v, .string x.t0.name, .bool x.t1.v, .string x.t1.name, .bool x.t2.v, .string x.t2.name, .bool x.t3.v, .string x.t3.name] rfl).bel (bel_drew' (Below.refl _ _))) (by omega) ?_); intro q1 k1 w10 HO1; have hcur := HO1.out.bel))
                  all_goals
                    go_wp2
                    go_roundw
                    case rel => exact ⟨[], y :: lb, out ++ [x], some ⟨ba, oa, none⟩, some ⟨bb, ob, none⟩, q1, 0, kb, k1, by simp, by simp, by simp, by first | omega | (simp at hla ⊢; omega) | (simp at hla ⊢), by first | omega | (simp at hlb ⊢; omega) | (simp at hlb ⊢), by rw [HM.out] at hlo; first | (simp at hlo ⊢; omega) | (simp at hlo ⊢), Lib.hid (by rw [← HE.out, HM.out]; simp), Lib.hid (al_end _ (some ⟨ba, oa, none⟩) rfl), HBB, Lib.hid ⟨HSL.out.1, HSM.out.2⟩, HO1⟩
                    case measure => simp <;> omega
                · skip
                  have h2 : (1 : Int) ≤ ka := by omega
                  go_wp2
                  go_region_held3 (fun w' => (w'.cell? ⟨ba, oa, none⟩ = some (.string x.says) ∧ w'.cell? ⟨ba, oa + 1, none⟩ = some (.string x.pred) ∧ w'.cell? ⟨ba, oa + 2, none⟩ = some (.int .i64 x.n) ∧ w'.cell? ⟨ba, oa + 3, none⟩ = some (.bool x.t0.v) ∧ w'.cell? ⟨ba, oa + 4, none⟩ = some (.string x.t0.name) ∧ w'.cell? ⟨ba, oa + 5, none⟩ = some (.bool x.t1.v) ∧ w'.cell? ⟨ba, oa + 6, none⟩ = some (.string x.t1.name) ∧ w'.cell? ⟨ba, oa + 7, none⟩ = some (.bool x.t2.v) ∧ w'.cell? ⟨ba, oa + 8, none⟩ = some (.string x.t2.name) ∧ w'.cell? ⟨ba, oa + 9, none⟩ = some (.bool x.t3.v) ∧ w'.cell? ⟨ba, oa + 10, none⟩ = some (.string x.t3.name))) (first | exact HCX.out _ hcur | exact HCX.out _ (hcur0.trans' ((bel_alloc _ _).trans' (bel_drew' (Below.refl _ _)))) | go_keep | trivial)
                    (first | ((refine step_pushA (by rfl) (.tmp 45) (.tmp 49) (by rfl) x (by rfl) (by rfl) (HO9.out.bel' ((bel_alloc _ _).trans' (bel_drew' (Below.refl _ _)))) ((SliceAt.lit EA _ 27 [x] #[.string x.says, .string x.pred, .int .i64 x.n, .bool x.t0.v, .string x.t0.name, .bool x.t1.v, .string x.t1.name, .bool x.t2.v, .string x.t2.name, .bool x.t3.v, .string x.t3.name] rfl).bel (bel_drew' (Below.refl _ _))) (by omega) ?_); intro q1 k1 w10 HO1; have hcur := HO1.out.bel))
                  all_goals
                    go_wp2
                    go_roundw
                    case rel => exact ⟨la, y :: lb, out ++ [x], some ⟨ba, oa + 11, none⟩, some ⟨bb, ob, none⟩, q1, ka - 1, kb, k1, by simp, by simp, by simp, by first | omega | (simp at hla ⊢; omega) | (simp at hla ⊢), by first | omega | (simp at hlb ⊢; omega) | (simp at hlb ⊢), by rw [HM.out] at hlo; first | (simp at hlo ⊢; omega) | (simp at hlo ⊢), Lib.hid (by rw [← HE.out, HM.out]; simp), Lib.hid (al_tail HA.out), HBB, Lib.hid ⟨HSL.out.1, HSM.out.2⟩, HO1⟩
                    case measure => simp <;> omega
            · have HM := Lib.hid (merge_eq (l := la) (m := lb) (x := x) (y := y) (by cases q : ltA x y with | false => rfl | true => rw [cmp_lt.2 q] at hc; cases hc) (by cases q : ltA y x with | false => rfl | true => rw [cmp_gt.2 q] at hc; cases hc))
              rw [hc] at HC
              clear hc
              go_wp2
              go_region_held3 (fun w' => (w'.cell? ⟨ba, oa, none⟩ = some (.string x.says) ∧ w'.cell? ⟨ba, oa + 1, none⟩ = some (.string x.pred) ∧ w'.cell? ⟨ba, oa + 2, none⟩ = some (.int .i64 x.n) ∧ w'.cell? ⟨ba, oa + 3, none⟩ = some (.bool x.t0.v) ∧ w'.cell? ⟨ba, oa + 4, none⟩ = some (.string x.t0.name) ∧ w'.cell? ⟨ba, oa + 5, none⟩ = some (.bool x.t1.v) ∧ w'.cell? ⟨ba, oa + 6, none⟩ = some (.string x.t1.name) ∧ w'.cell? ⟨ba, oa + 7, none⟩ = some (.bool x.t2.v) ∧ w'.cell? ⟨ba, oa + 8, none⟩ = some (.string x.t2.name) ∧ w'.cell? ⟨ba, oa + 9, none⟩ = some (.bool x.t3.v) ∧ w'.cell? ⟨ba, oa + 10, none⟩ = some (.string x.t3.name)) ∧ (w'.cell? ⟨bb, ob, none⟩ = some (.string y.says) ∧ w'.cell? ⟨bb, ob + 1, none⟩ = some (.string y.pred) ∧ w'.cell? ⟨bb, ob + 2, none⟩ = some (.int .i64 y.n) ∧ w'.cell? ⟨bb, ob + 3, none⟩ = some (.bool y.t0.v) ∧ w'.cell? ⟨bb, ob + 4, none⟩ = some (.string y.t0.name) ∧ w'.cell? ⟨bb, ob + 5, none⟩ = some (.bool y.t1.v) ∧ w'.cell? ⟨bb, ob + 6, none⟩ = some (.string y.t1.name) ∧ w'.cell? ⟨bb, ob + 7, none⟩ = some (.bool y.t2.v) ∧ w'.cell? ⟨bb, ob + 8, none⟩ = some (.string y.t2.name) ∧ w'.cell? ⟨bb, ob + 9, none⟩ = some (.bool y.t3.v) ∧ w'.cell? ⟨bb, ob + 10, none⟩ = some (.string y.t3.name))) (first | exact ⟨HCX.out _ hd, HCY.out _ hd⟩ | go_keep | trivial)
                (first | (go_at_call 21; refine (HC.out _).mono ?_; rintro e w9 ⟨rfl, hg⟩; replace hd := hd.trans' hg; replace hg0 := hg0.trans' hg; clear hg))
              all_goals
                clear c0 c1 c2 c3 c4 c5 c6 c7 c8 c9 c10 d0 d1 d2 d3 d4 d5 d6 d7 d8 d9 d10 HC hr
                have HO9 := Lib.hid (HO.out.bel' hg0)
                have hcur0 := hd
                by_cases h1 : kb = 1
                · skip
                  subst h1
                  obtain rfl : lb = [] := al_tail1 HBB.out
                  go_wp2
                  go_roundw
                  case rel => exact ⟨x :: la, [], out, some ⟨ba, oa, none⟩, some ⟨bb, ob, none⟩, qo, ka, 0, ko, by simp, by simp, rfl, by first | omega | (simp at hla ⊢; omega) | (simp at hla ⊢), by first | omega | (simp at hlb ⊢; omega) | (simp at hlb ⊢), by rw [HM.out] at hlo; exact hlo, Lib.hid (by rw [← HE.out, HM.out]), HA, Lib.hid (al_end _ (some ⟨bb, ob, none⟩) rfl), Lib.hid ⟨HSM.out.1, HSL.out.2⟩, HO9⟩
                  case measure => simp <;> omega
                · skip
                  have h2 : (1 : Int) ≤ kb := by omega
                  go_wp2
                  go_roundw
                  case rel => exact ⟨x :: la, lb, out, some ⟨ba, oa, none⟩, some ⟨bb, ob + 11, none⟩, qo, ka, kb - 1, ko, by simp, by simp, rfl, by first | omega | (simp at hla ⊢; omega) | (simp at hla ⊢), by first | omega | (simp at hlb ⊢; omega) | (simp at hlb ⊢), by rw [HM.out] at hlo; exact hlo, Lib.hid (by rw [← HE.out, HM.out]), HA, Lib.hid (al_tail HBB.out), Lib.hid ⟨HSM.out.1, HSL.out.2⟩, HO9⟩
                  case measure => simp <;> omega
            · have HM := Lib.hid (merge_gt (l := la) (m := lb) (cmp_gt.1 hc))
              rw [hc] at HC
              clear hc
              go_wp2
              go_region_held3 (fun w' => (w'.cell? ⟨ba, oa, none⟩ = some (.string x.says) ∧ w'.cell? ⟨ba, oa + 1, none⟩ = some (.string x.pred) ∧ w'.cell? ⟨ba, oa + 2, none⟩ = some (.int .i64 x.n) ∧ w'.cell? ⟨ba, oa + 3, none⟩ = some (.bool x.t0.v) ∧ w'.cell? ⟨ba, oa + 4, none⟩ = some (.string x.t0.name) ∧ w'.cell? ⟨ba, oa + 5, none⟩ = some (.bool x.t1.v) ∧ w'.cell? ⟨ba, oa + 6, none⟩ = some (.string x.t1.name) ∧ w'.cell? ⟨ba, oa + 7, none⟩ = some (.bool x.t2.v) ∧ w'.cell? ⟨ba, oa + 8, none⟩ = some (.string x.t2.name) ∧ w'.cell? ⟨ba, oa + 9, none⟩ = some (.bool x.t3.v) ∧ w'.cell? ⟨ba, oa + 10, none⟩ = some (.string x.t3.name)) ∧ (w'.cell? ⟨bb, ob, none⟩ = some (.string y.says) ∧ w'.cell? ⟨bb, ob + 1, none⟩ = some (.string y.pred) ∧ w'.cell? ⟨bb, ob + 2, none⟩ = some (.int .i64 y.n) ∧ w'.cell? ⟨bb, ob + 3, none⟩ = some (.bool y.t0.v) ∧ w'.cell? ⟨bb, ob + 4, none⟩ = some (.string y.t0.name) ∧ w'.cell? ⟨bb, ob + 5, none⟩ = some (.bool y.t1.v) ∧ w'.cell? ⟨bb, ob + 6, none⟩ = some (.string y.t1.name) ∧ w'.cell? ⟨bb, ob + 7, none⟩ = some (.bool y.t2.v) ∧ w'.cell? ⟨bb, ob + 8, none⟩ = some (.string y.t2.name) ∧ w'.cell? ⟨bb, ob + 9, none⟩ = some (.bool y.t3.v) ∧ w'.cell? ⟨bb, ob + 10, none⟩ = some (.string y.t3.name))) (first | exact ⟨HCX.out _ hd, HCY.out _ hd⟩ | go_keep | trivial)
                (first | (go_at_call 21; refine (HC.out _).mono ?_; rintro e w9 ⟨rfl, hg⟩; replace hd := hd.trans' hg; replace hg0 := hg0.trans' hg; clear hg))
              all_goals
                clear c0 c1 c2 c3 c4 c5 c6 c7 c8 c9 c10 d0 d1 d2 d3 d4 d5 d6 d7 d8 d9 d10 HC hr
                have HO9 := Lib.hid (HO.out.bel' hg0)
                have hcur0 := hd
                have hcur : Bel w2 w9.drew := hd.trans' (bel_drew' (Below.refl _ _))
                obtain ⟨c0, c1, c2, c3, c4, c5, c6, c7, c8, c9, c10⟩ := HCY.out _ hcur
                by_cases h1 : kb = 1
                · skip
                  subst h1
                  obtain rfl : lb = [] := al_tail1 HBB.out
                  go_wp2
                  go_region_held3 (fun w' => (w'.cell? ⟨bb, ob, none⟩ = some (.string y.says) ∧ w'.cell? ⟨bb, ob + 1, none⟩ = some (.string y.pred) ∧ w'.cell? ⟨bb, ob + 2, none⟩ = some (.int .i64 y.n) ∧ w'.cell? ⟨bb, ob + 3, none⟩ = some (.bool y.t0.v) ∧ w'.cell? ⟨bb, ob + 4, none⟩ = some (.string y.t0.name) ∧ w'.cell? ⟨bb, ob + 5, none⟩ = some (.bool y.t1.v) ∧ w'.cell? ⟨bb, ob + 6, none⟩ = some (.string y.t1.name) ∧ w'.cell? ⟨bb, ob + 7, none⟩ = some (.bool y.t2.v) ∧ w'.cell? ⟨bb, ob + 8, none⟩ = some (.string y.t2.name) ∧ w'.cell? ⟨bb, ob + 9, none⟩ = some (.bool y.t3.v) ∧ w'.cell? ⟨bb, ob + 10, none⟩ = some (.string y.t3.name))) (first | exact HCY.out _ hcur | exact HCY.out _ (hcur0.trans' ((bel_alloc _ _).trans' (bel_drew' (Below.refl _ _)))) | go_keep | trivial)
                    (first | ((refine step_pushA (by rfl) (.tmp 56) (.tmp 60) (by rfl) y (by rfl) (by rfl) (HO9.out.bel' ((bel_alloc _ _).trans' (bel_drew' (Below.refl _ _)))) ((SliceAt.lit EA _ 27 [y] #[.string y.says, .string y.pred, .int .i64 y.n, .bool y.t0.v, .string y.t0.name, .bool y.t1.v, .string y.t1.name, .bool y.t2.v, .string y.t2.name, .bool y.t3.v, .string y.t3.name] rfl).bel (bel_drew' (Below.refl _ _))) (by omega) ?_); intro q1 k1 w10 HO1; have hcur := HO1.out.bel))
                  all_goals
                    go_wp2
                    go_roundw
                    case rel => exact ⟨x :: la, [], out ++ [y], some ⟨ba, oa, none⟩, some ⟨bb, ob, none⟩, q1, ka, 0, k1, by simp, by simp, by simp, by first | omega | (simp at hla ⊢; omega) | (simp at hla ⊢), by first | omega | (simp at hlb ⊢; omega) | (simp at hlb ⊢), by rw [HM.out] at hlo; first | (simp at hlo ⊢; omega) | (simp at hlo ⊢), Lib.hid (by rw [← HE.out, HM.out]; simp), HA, Lib.hid (al_end _ (some ⟨bb, ob, none⟩) rfl), Lib.hid ⟨HSM.out.1, HSL.out.2⟩, HO1⟩
                    case measure => simp <;> omega
                · skip
                  have h2 : (1 : Int) ≤ kb := by omega
                  go_wp2
                  go_region_held3 (fun w' => (w'.cell? ⟨bb, ob, none⟩ = some (.string y.says) ∧ w'.cell? ⟨bb, ob + 1, none⟩ = some (.string y.pred) ∧ w'.cell? ⟨bb, ob + 2, none⟩ = some (.int .i64 y.n) ∧ w'.cell? ⟨bb, ob + 3, none⟩ = some (.bool y.t0.v) ∧ w'.cell? ⟨bb, ob + 4, none⟩ = some (.string y.t0.name) ∧ w'.cell? ⟨bb, ob + 5, none⟩ = some (.bool y.t1.v) ∧ w'.cell? ⟨bb, ob + 6, none⟩ = some (.string y.t1.name) ∧ w'.cell? ⟨bb, ob + 7, none⟩ = some (.bool y.t2.v) ∧ w'.cell? ⟨bb, ob + 8, none⟩ = some (.string y.t2.name) ∧ w'.cell? ⟨bb, ob + 9, none⟩ = some (.bool y.t3.v) ∧ w'.cell? ⟨bb, ob + 10, none⟩ = some (.string y.t3.name))) (first | exact HCY.out _ hcur | exact HCY.out _ (hcur0.trans' ((bel_alloc _ _).trans' (bel_drew' (Below.refl _ _)))) | go_keep | trivial)
                    (first | ((refine step_pushA (by rfl) (.tmp 56) (.tmp 60) (by rfl) y (by rfl) (by rfl) (HO9.out.bel' ((bel_alloc _ _).trans' (bel_drew' (Below.refl _ _)))) ((SliceAt.lit EA _ 27 [y] #[.string y.says, .string y.pred, .int .i64 y.n, .bool y.t0.v, .string y.t0.name, .bool y.t1.v, .string y.t1.name, .bool y.t2.v, .string y.t2.name, .bool y.t3.v, .string y.t3.name] rfl).bel (bel_drew' (Below.refl _ _))) (by omega) ?_); intro q1 k1 w10 HO1; have hcur := HO1.out.bel))
                  all_goals
                    go_wp2
                    go_roundw
                    case rel => exact ⟨x :: la, lb, out ++ [y], some ⟨ba, oa, none⟩, some ⟨bb, ob + 11, none⟩, q1, ka, kb - 1, k1, by simp, by simp, by simp, by first | omega | (simp at hla ⊢; omega) | (simp at hla ⊢), by first | omega | (simp at hlb ⊢; omega) | (simp at hlb ⊢), by rw [HM.out] at hlo; first | (simp at hlo ⊢; omega) | (simp at hlo ⊢), Lib.hid (by rw [← HE.out, HM.out]; simp), HA, Lib.hid (al_tail HBB.out), Lib.hid ⟨HSM.out.1, HSL.out.2⟩, HO1⟩
                    case measure => simp <;> omega
theorem rSorted_any (A : Option Addr) (l : List AtomD) (n ca : Nat) (hn : l.length = n) (w : World) (hL : AL w A ca l) (hl : l.length ≤ 100000) (hs : SmA l) :
    Calls Try.prog 26 #[.slice A n ca] w fun e w' => (∃ q c, RowKit.Hid (OA w w' q c (sortedD l)) ∧ e = .returned (.slice q (sortedD l).length c)) ∧ Bel w w' := rSortedN n A l n ca hn (Nat.le_refl _) w hL (by omega) hs
end Go.Proofs.Ytamghlneoglfnaa
