/-
  The law VariantLists. Conditions: the list lies in memory.
-/
import Derived.Test.YtiokjjiakcbmhaaDoorVaF
namespace Go.Proofs.YtiokjjiakcbmhaaDoor
open Go.RowKit

theorem light_each {l : List AtomD} {most : Int} (h : lightAs l most = true) : (l.length : Int) ≤ most ∧ ∀ x ∈ l, lightA x = true := by
  unfold lightAs at h
  rw [Bool.and_eq_true, decide_eq_true_eq] at h
  exact ⟨h.1, fun x hx => List.all_eq_true.1 h.2 x hx⟩
theorem distinct_good {l : List AtomD} (h : ∀ x ∈ l, AtomOk x ∧ AtomSm x) : ∀ x ∈ distinctD l, AtomOk x ∧ AtomSm x := fun x hx => by
  obtain ⟨a, ha, rfl⟩ := distinct_mem.1 hx
  exact ⟨canon_aok (h a ha).1, canon_sm (h a ha).2⟩
theorem al_own {w W : World} {q : Option Addr} {c : Nat} {l : List AtomD} (h : OA w W q c l) : AL W q c l := OwnL.slice EA h
/-- the cells of an item, in each later world -/
theorem al_later {w : World} {b o ca : Nat} {l : List AtomD} (h : AL w (some ⟨b, o, none⟩) ca l) {k : Nat} (hk : k < l.length) : ∀ W, Bel w W → W.cell? ⟨b, o + k * 11, none⟩ = some (.string l[k].says) ∧ W.cell? ⟨b, o + k * 11 + 1, none⟩ = some (.string l[k].pred) ∧ W.cell? ⟨b, o + k * 11 + 2, none⟩ = some (.int .i64 l[k].n) ∧ W.cell? ⟨b, o + k * 11 + 3, none⟩ = some (.bool l[k].t0.v) ∧ W.cell? ⟨b, o + k * 11 + 4, none⟩ = some (.string l[k].t0.name) ∧ W.cell? ⟨b, o + k * 11 + 5, none⟩ = some (.bool l[k].t1.v) ∧ W.cell? ⟨b, o + k * 11 + 6, none⟩ = some (.string l[k].t1.name) ∧ W.cell? ⟨b, o + k * 11 + 7, none⟩ = some (.bool l[k].t2.v) ∧ W.cell? ⟨b, o + k * 11 + 8, none⟩ = some (.string l[k].t2.name) ∧ W.cell? ⟨b, o + k * 11 + 9, none⟩ = some (.bool l[k].t3.v) ∧ W.cell? ⟨b, o + k * 11 + 10, none⟩ = some (.string l[k].t3.name) := fun W hg => by
  obtain ⟨b', o', e, _, hc⟩ := al_get (h.bel hg) (by omega)
  injection e with e
  injection e with e1 e2
  subst e1 e2
  exact hc k hk
theorem al_at {w : World} {A : Option Addr} {ca : Nat} {l : List AtomD} (h : AL w A ca l) {k : Nat} (hk : k < l.length) : ∃ b o, A = some ⟨b, o, none⟩ := by
  obtain ⟨b, o, e, _, _⟩ := al_get h (by omega)
  exact ⟨b, o, e⟩
set_option maxRecDepth 20000 in
set_option maxHeartbeats 8000000 in
theorem lawVariantLists (A : Option Addr) (l : List AtomD) (ca : Nat) (w : World) (hL : AL w A ca l) (hk : ∀ x ∈ l, AtomOk x) (hll : l.length ≤ 9223372036854775807) :
    Calls Tryd.prog 6 #[.slice A l.length ca] w fun e w' => e = .returned (.bool true) ∧ Bel w w' := by
  have hb : Bel w w := Below.refl _ _
  have HL := Lib.hid hL
  have HK := Lib.hid hk
  have hLl := Lib.hid (fun W (hg : Bel w W) => lightAs_any A l ca 40 W (HL.out.bel hg) hll HK.out)
  clear hL hk
  cases q2 : lightAs l 40
  case false =>
    rw [q2] at hLl
    clear q2
    go_enter Tryd.func6, Tryd.ntmps6
    go_wp2_with (fail)
    refine (lives7_any _).mono ?_
    rintro e w1 ⟨rfl, hg⟩
    replace hb := hb.trans' hg
    clear hg
    go_wp2_with (fail)
    refine (hLl.out _ hb).mono ?_
    rintro e w2 ⟨rfl, hg⟩
    replace hb := hb.trans' hg
    clear hg
    go_wp2
    go_ret
    exact ⟨rfl, hb⟩
  rw [q2] at hLl
  obtain ⟨h40, hlt⟩ := light_each q2
  have HG : RowKit.Hid (∀ x ∈ l, AtomOk x ∧ AtomSm x) := Lib.hid (fun x hx => ⟨HK.out x hx, AtomOk.sm (hlt x hx)⟩)
  have hl40 : l.length ≤ 40 := by omega
  clear q2 hlt h40 hll
  obtain ⟨d, hd⟩ : ∃ d, d = distinctD l := ⟨_, rfl⟩
  have HD := Lib.hid hd
  have hdl : d.length ≤ l.length := by rw [hd]; exact distinct_le l
  have HDG : RowKit.Hid (∀ x ∈ d, AtomOk x ∧ AtomSm x) := Lib.hid (by rw [hd]; exact distinct_good HG.out)
  clear hd
  go_enter Tryd.func6, Tryd.ntmps6
  go_wp2_with (fail)
  refine (lives7_any _).mono ?_
  rintro e w1 ⟨rfl, hg⟩
  replace hb := hb.trans' hg
  clear hg
  go_wp2_with (fail)
  refine (hLl.out _ hb).mono ?_
  rintro e w2 ⟨rfl, hg⟩
  replace hb := hb.trans' hg
  clear hg
  go_wp2_with (fail)
  refine (ownA_any A l l.length ca rfl _ (HL.out.bel hb) (by omega)).mono ?_
  rintro e w3 ⟨⟨q3, c3, HO3, rfl⟩, hg⟩
  replace hb := hb.trans' hg
  clear hg
  go_wp2_with (fail)
  refine (DistinctV_any q3 l l.length c3 rfl _ (al_own HO3.out) (by omega) HG.out).mono ?_
  rintro e w4 ⟨⟨q4, c4, HO4, rfl⟩, hg⟩
  replace hb := hb.trans' hg
  clear hg HO3
  rw [← HD.out] at HO4 ⊢
  have HDL := Lib.hid (al_own HO4.out)
  have HLW := Lib.hid (HL.out.bel hb)
  have HB4 := Lib.hid hb
  clear HO4 hb hLl HL
  go_wp2
  go_loopw [4, 5] (fun s4 s5 wr => ∃ k m : Nat, k ≤ l.length ∧ s5 = .int .i64 k ∧ s4 = .int .i64 m ∧ RowKit.Hid (m = (distinctD (l.take k)).length) ∧ RowKit.Hid (Bel w4 wr)) (fun _ s5 _ => l.length - (intOf s5).toNat)
  case atStart => exact ⟨0, 0, Nat.zero_le _, rfl, rfl, Lib.hid rfl, Lib.hid (Below.refl _ _)⟩
  case round =>
    obtain ⟨k, m, hk, rfl, rfl, HM, HB⟩ := hrel
    by_cases hlt : k < l.length
    · have hq : (0 : Int) ≤ k := by omega
      have hq2 : (k : Int) < l.length := by omega
      obtain ⟨bl, ol, rfl⟩ := al_at HLW.out hlt
      have HIX := Lib.hid (al_later HLW.out hlt)
      obtain ⟨ix, hix⟩ : ∃ ix, ix = idxA (distinctD l) (canonD l[k]) := ⟨_, rfl⟩
      have hst := idxA_step hlt
      rw [← hix, ← HM.out] at hst
      have hmem : canonD l[k] ∈ distinctD l := distinct_mem.2 ⟨_, List.getElem_mem hlt, rfl⟩
      obtain ⟨hixl, hixe⟩ := idxA_hit hmem
      have HSAME : RowKit.Hid (∀ n (hn : n < d.length), eqA (canonD d[n]) (canonD l[k]) = decide (n = ix)) := Lib.hid (fun n hn => by
        have hdn : canonD d[n] = d[n] := distinct_canon (by rw [← HD.out]; exact List.getElem_mem hn)
        rw [hdn, hix]
        have := idxA_same (distinct_once l) hmem (n := n) (by rw [← HD.out]; exact hn)
        simp only [← HD.out] at this ⊢
        exact this)
      have hixd : ix < d.length := by rw [HD.out, hix]; exact hixl
      have HAT : RowKit.Hid (d[ix] = canonD l[k]) := Lib.hid (by
        simp only [HD.out, hix]
        exact hixe)
      have hkx := HG.out _ (List.getElem_mem hlt)
      have HKX := Lib.hid hkx
      have him : ix ≤ m := hst.1
      have HST : RowKit.Hid ((distinctD (l.take (k + 1))).length = if ix = m then m + 1 else m) := Lib.hid hst.2.1
      have hmk : m ≤ d.length := by rw [HD.out]; exact hst.2.2
      clear hst hmem hixl hixe hix hkx
      generalize l[k] = x at HIX HSAME HAT HKX
      go_wp2
      go_loopw [6, 7] (fun s6 s7 wq => ∃ n : Nat, n ≤ d.length ∧ s7 = .int .i64 n ∧ RowKit.Hid (Bel wr wq) ∧ ((n ≤ ix ∧ s6 = .int .i64 (-1)) ∨ (ix < n ∧ s6 = .int .i64 ix))) (fun _ s7 _ => d.length - (intOf s7).toNat)
      case atStart => exact ⟨0, Nat.zero_le _, rfl, Lib.hid (Below.refl _ _), .inl ⟨Nat.zero_le _, rfl⟩⟩
      case round =>
        obtain ⟨n, hn, rfl, HQ, hat⟩ := hrel
        by_cases hln : n < d.length
        · have hp : (0 : Int) ≤ n := by omega
          have hp2 : (n : Int) < d.length := by omega
          obtain ⟨bd, od, rfl⟩ := al_at HDL.out hln
          have HIY := Lib.hid (al_later HDL.out hln)
          have HS1 := Lib.hid (HSAME.out n hln)
          have HKY := Lib.hid (HDG.out _ (List.getElem_mem hln))
          generalize d[n] = y at HIY HS1 HKY
          have hd : Bel wr wr.drew := bel_drew' (Below.refl _ _)
          have HWQ := Lib.hid (HB.out.trans' HQ.out)
          have HSM := Lib.hid (fun W => SameV_any y x W HKY.out.2.args HKX.out.2.args)
          rw [HS1.out] at HSM
          rcases Decidable.em (n = ix) with rfl | hne
          · rw [decide_eq_true rfl] at HSM
            obtain rfl : u6 = .int .i64 (-1) := by
              rcases hat with ⟨_, h⟩ | ⟨h, _⟩
              · exact h
              · exact absurd h (Nat.lt_irrefl _)
            clear hat
            obtain ⟨c0, c1, c2, c3, c4, c5, c6, c7, c8, c9, c10⟩ := HIX.out wr.drew (HWQ.out.trans' hd)
            obtain ⟨d0, d1, d2, d3, d4, d5, d6, d7, d8, d9, d10⟩ := HIY.out wr.drew (HWQ.out.trans' hd)
            go_wp2
            go_region_held3 (fun w' => (w'.cell? ⟨bl, ol + k * 11, none⟩ = some (.string x.says) ∧ w'.cell? ⟨bl, ol + k * 11 + 1, none⟩ = some (.string x.pred) ∧ w'.cell? ⟨bl, ol + k * 11 + 2, none⟩ = some (.int .i64 x.n) ∧ w'.cell? ⟨bl, ol + k * 11 + 3, none⟩ = some (.bool x.t0.v) ∧ w'.cell? ⟨bl, ol + k * 11 + 4, none⟩ = some (.string x.t0.name) ∧ w'.cell? ⟨bl, ol + k * 11 + 5, none⟩ = some (.bool x.t1.v) ∧ w'.cell? ⟨bl, ol + k * 11 + 6, none⟩ = some (.string x.t1.name) ∧ w'.cell? ⟨bl, ol + k * 11 + 7, none⟩ = some (.bool x.t2.v) ∧ w'.cell? ⟨bl, ol + k * 11 + 8, none⟩ = some (.string x.t2.name) ∧ w'.cell? ⟨bl, ol + k * 11 + 9, none⟩ = some (.bool x.t3.v) ∧ w'.cell? ⟨bl, ol + k * 11 + 10, none⟩ = some (.string x.t3.name)) ∧ (w'.cell? ⟨bd, od + n * 11, none⟩ = some (.string y.says) ∧ w'.cell? ⟨bd, od + n * 11 + 1, none⟩ = some (.string y.pred) ∧ w'.cell? ⟨bd, od + n * 11 + 2, none⟩ = some (.int .i64 y.n) ∧ w'.cell? ⟨bd, od + n * 11 + 3, none⟩ = some (.bool y.t0.v) ∧ w'.cell? ⟨bd, od + n * 11 + 4, none⟩ = some (.string y.t0.name) ∧ w'.cell? ⟨bd, od + n * 11 + 5, none⟩ = some (.bool y.t1.v) ∧ w'.cell? ⟨bd, od + n * 11 + 6, none⟩ = some (.string y.t1.name) ∧ w'.cell? ⟨bd, od + n * 11 + 7, none⟩ = some (.bool y.t2.v) ∧ w'.cell? ⟨bd, od + n * 11 + 8, none⟩ = some (.string y.t2.name) ∧ w'.cell? ⟨bd, od + n * 11 + 9, none⟩ = some (.bool y.t3.v) ∧ w'.cell? ⟨bd, od + n * 11 + 10, none⟩ = some (.string y.t3.name))) (first | exact ⟨HIX.out _ (HWQ.out.trans' hd), HIY.out _ (HWQ.out.trans' hd)⟩ | go_keep | trivial)
              (first | (go_at_call 11; refine (HSM.out _).mono ?_; rintro e w5 ⟨rfl, hg⟩; replace hd := hd.trans' hg; clear hg))
            all_goals
              replace HWQ := Lib.hid (HQ.out.trans' hd)
              clear HSM c0 c1 c2 c3 c4 c5 c6 c7 c8 c9 c10 d0 d1 d2 d3 d4 d5 d6 d7 d8 d9 d10
              go_wp2
              go_roundw
              case rel => exact ⟨n + 1, by omega, by go_num, HWQ, .inr ⟨by omega, rfl⟩⟩
              case measure => simp [intOf]; omega
          · rw [decide_eq_false hne] at HSM
            obtain ⟨c0, c1, c2, c3, c4, c5, c6, c7, c8, c9, c10⟩ := HIX.out wr.drew (HWQ.out.trans' hd)
            obtain ⟨d0, d1, d2, d3, d4, d5, d6, d7, d8, d9, d10⟩ := HIY.out wr.drew (HWQ.out.trans' hd)
            go_wp2
            go_region_held3 (fun w' => (w'.cell? ⟨bl, ol + k * 11, none⟩ = some (.string x.says) ∧ w'.cell? ⟨bl, ol + k * 11 + 1, none⟩ = some (.string x.pred) ∧ w'.cell? ⟨bl, ol + k * 11 + 2, none⟩ = some (.int .i64 x.n) ∧ w'.cell? ⟨bl, ol + k * 11 + 3, none⟩ = some (.bool x.t0.v) ∧ w'.cell? ⟨bl, ol + k * 11 + 4, none⟩ = some (.string x.t0.name) ∧ w'.cell? ⟨bl, ol + k * 11 + 5, none⟩ = some (.bool x.t1.v) ∧ w'.cell? ⟨bl, ol + k * 11 + 6, none⟩ = some (.string x.t1.name) ∧ w'.cell? ⟨bl, ol + k * 11 + 7, none⟩ = some (.bool x.t2.v) ∧ w'.cell? ⟨bl, ol + k * 11 + 8, none⟩ = some (.string x.t2.name) ∧ w'.cell? ⟨bl, ol + k * 11 + 9, none⟩ = some (.bool x.t3.v) ∧ w'.cell? ⟨bl, ol + k * 11 + 10, none⟩ = some (.string x.t3.name)) ∧ (w'.cell? ⟨bd, od + n * 11, none⟩ = some (.string y.says) ∧ w'.cell? ⟨bd, od + n * 11 + 1, none⟩ = some (.string y.pred) ∧ w'.cell? ⟨bd, od + n * 11 + 2, none⟩ = some (.int .i64 y.n) ∧ w'.cell? ⟨bd, od + n * 11 + 3, none⟩ = some (.bool y.t0.v) ∧ w'.cell? ⟨bd, od + n * 11 + 4, none⟩ = some (.string y.t0.name) ∧ w'.cell? ⟨bd, od + n * 11 + 5, none⟩ = some (.bool y.t1.v) ∧ w'.cell? ⟨bd, od + n * 11 + 6, none⟩ = some (.string y.t1.name) ∧ w'.cell? ⟨bd, od + n * 11 + 7, none⟩ = some (.bool y.t2.v) ∧ w'.cell? ⟨bd, od + n * 11 + 8, none⟩ = some (.string y.t2.name) ∧ w'.cell? ⟨bd, od + n * 11 + 9, none⟩ = some (.bool y.t3.v) ∧ w'.cell? ⟨bd, od + n * 11 + 10, none⟩ = some (.string y.t3.name))) (first | exact ⟨HIX.out _ (HWQ.out.trans' hd), HIY.out _ (HWQ.out.trans' hd)⟩ | go_keep | trivial)
              (first | (go_at_call 11; refine (HSM.out _).mono ?_; rintro e w5 ⟨rfl, hg⟩; replace hd := hd.trans' hg; clear hg))
            all_goals
              replace HWQ := Lib.hid (HQ.out.trans' hd)
              clear HSM c0 c1 c2 c3 c4 c5 c6 c7 c8 c9 c10 d0 d1 d2 d3 d4 d5 d6 d7 d8 d9 d10
              go_wp2
              go_roundw
              case rel => exact ⟨n + 1, by omega, by go_num, HWQ, hat.elim (fun h => .inl ⟨by omega, h.2⟩) (fun h => .inr ⟨by omega, h.2⟩)⟩
              case measure => simp [intOf]; omega
        · obtain rfl : n = d.length := by omega
          obtain rfl : u6 = .int .i64 ix := by
            rcases hat with ⟨h, _⟩ | ⟨_, h⟩
            · omega
            · exact h
          clear hat
          have HWQ := Lib.hid (HB.out.trans' HQ.out)
          obtain ⟨bd, od, rfl⟩ := al_at HDL.out hixd
          have HIY := Lib.hid (al_later HDL.out hixd)
          rw [HAT.out] at HIY
          have HCA := Lib.hid (fun W => Canon_any x W HKX.out.2.args)
          obtain ⟨y, hy⟩ : ∃ y, y = canonD x := ⟨_, rfl⟩
          rw [← hy] at HIY HCA
          have hne := neq_atom y y
          rw [eqA_self y] at hne
          clear hy
          have hd : Bel wr wr.drew := bel_drew' (Below.refl _ _)
          have hx0 : (0 : Int) ≤ ix := by omega
          have hx1 : ¬ (ix : Int) < 0 := by omega
          have hx2 : ¬ (ix : Int) > m := by omega
          have hx3 : decide ((ix : Int) < 0) = false := decide_eq_false (by omega)
          have hx4 : decide ((ix : Int) > (m : Int)) = false := decide_eq_false (by omega)
          have hx5 : decide ((m : Int) < (ix : Int)) = false := decide_eq_false (by omega)
          have hx6 : decide (m < ix) = false := decide_eq_false (by omega)
          have hx7 : (ix : Int) < d.length := by omega
          obtain ⟨c0, c1, c2, c3, c4, c5, c6, c7, c8, c9, c10⟩ := HIX.out wr.drew (HWQ.out.trans' hd)
          obtain ⟨d0, d1, d2, d3, d4, d5, d6, d7, d8, d9, d10⟩ := HIY.out wr.drew (HWQ.out.trans' hd)
          go_wp2
          go_region_held3 (fun w' => (w'.cell? ⟨bl, ol + k * 11, none⟩ = some (.string x.says) ∧ w'.cell? ⟨bl, ol + k * 11 + 1, none⟩ = some (.string x.pred) ∧ w'.cell? ⟨bl, ol + k * 11 + 2, none⟩ = some (.int .i64 x.n) ∧ w'.cell? ⟨bl, ol + k * 11 + 3, none⟩ = some (.bool x.t0.v) ∧ w'.cell? ⟨bl, ol + k * 11 + 4, none⟩ = some (.string x.t0.name) ∧ w'.cell? ⟨bl, ol + k * 11 + 5, none⟩ = some (.bool x.t1.v) ∧ w'.cell? ⟨bl, ol + k * 11 + 6, none⟩ = some (.string x.t1.name) ∧ w'.cell? ⟨bl, ol + k * 11 + 7, none⟩ = some (.bool x.t2.v) ∧ w'.cell? ⟨bl, ol + k * 11 + 8, none⟩ = some (.string x.t2.name) ∧ w'.cell? ⟨bl, ol + k * 11 + 9, none⟩ = some (.bool x.t3.v) ∧ w'.cell? ⟨bl, ol + k * 11 + 10, none⟩ = some (.string x.t3.name)) ∧ (w'.cell? ⟨bd, od + ix * 11, none⟩ = some (.string y.says) ∧ w'.cell? ⟨bd, od + ix * 11 + 1, none⟩ = some (.string y.pred) ∧ w'.cell? ⟨bd, od + ix * 11 + 2, none⟩ = some (.int .i64 y.n) ∧ w'.cell? ⟨bd, od + ix * 11 + 3, none⟩ = some (.bool y.t0.v) ∧ w'.cell? ⟨bd, od + ix * 11 + 4, none⟩ = some (.string y.t0.name) ∧ w'.cell? ⟨bd, od + ix * 11 + 5, none⟩ = some (.bool y.t1.v) ∧ w'.cell? ⟨bd, od + ix * 11 + 6, none⟩ = some (.string y.t1.name) ∧ w'.cell? ⟨bd, od + ix * 11 + 7, none⟩ = some (.bool y.t2.v) ∧ w'.cell? ⟨bd, od + ix * 11 + 8, none⟩ = some (.string y.t2.name) ∧ w'.cell? ⟨bd, od + ix * 11 + 9, none⟩ = some (.bool y.t3.v) ∧ w'.cell? ⟨bd, od + ix * 11 + 10, none⟩ = some (.string y.t3.name))) (first | exact ⟨HIX.out _ (HWQ.out.trans' hd), HIY.out _ (HWQ.out.trans' hd)⟩ | go_keep | trivial)
            (first | (go_at_call 13; refine (HCA.out _).mono ?_; rintro e w5 ⟨⟨q, HQ2, rfl⟩, hg⟩; obtain rfl := HQ2.out.symm; replace hd := hd.trans' hg; clear hg))
          all_goals
            clear hx1 hx2 hx3 hx4 hx5 hx6 hx7 hne HCA c0 c1 c2 c3 c4 c5 c6 c7 c8 c9 c10 d0 d1 d2 d3 d4 d5 d6 d7 d8 d9 d10
            replace HWQ := Lib.hid (HWQ.out.trans' hd)
            rcases Decidable.em (ix = m) with hxm | hxm
            · have hy1 : ((ix : Int) == (m : Int)) = true := by simp; omega
              have hy2 : (ix == m) = true := by simp; omega
              have HST2 : RowKit.Hid (m + 1 = (distinctD (l.take (k + 1))).length) := Lib.hid (by rw [HST.out, if_pos hxm])
              clear hxm
              go_wp2
              go_roundw
              case rel => exact ⟨k + 1, m + 1, by omega, by go_num, by go_num, HST2, HWQ⟩
              case measure => simp [intOf]; omega
            · have hy1 : ((ix : Int) == (m : Int)) = false := by simp; omega
              have hy2 : (ix == m) = false := by simp; omega
              have HST2 : RowKit.Hid (m = (distinctD (l.take (k + 1))).length) := Lib.hid (by rw [HST.out, if_neg hxm])
              clear hxm
              go_wp2
              go_roundw
              case rel => exact ⟨k + 1, m, by omega, by go_num, rfl, HST2, HWQ⟩
              case measure => simp [intOf]; omega
    · obtain rfl : k = l.length := by omega
      obtain rfl : m = d.length := by rw [HM.out, List.take_length, HD.out]
      have HDW := Lib.hid (HDL.out.bel HB.out)
      go_wp2_with (fail)
      refine (DistinctV_any q4 d d.length c4 rfl _ HDW.out (by omega) HDG.out).mono ?_
      rintro e w5 ⟨⟨q5, c5, HO5, rfl⟩, hg⟩
      rw [show distinctD d = d by rw [HD.out]; exact distinct_fix l] at HO5 ⊢
      have HDW5 := Lib.hid (HDW.out.bel hg)
      have HBW := Lib.hid (HB4.out.trans' (HB.out.trans' hg))
      clear hg
      go_wp2_with (fail)
      refine (sameA_any q5 d d.length c5 rfl q4 d.length c4 rfl _ (al_own HO5.out) HDW5.out (by omega)).mono ?_
      rintro e w6 ⟨rfl, hg⟩
      go_wp2
      go_ret
      exact ⟨rfl, HBW.out.trans' hg⟩
end Go.Proofs.YtiokjjiakcbmhaaDoor
