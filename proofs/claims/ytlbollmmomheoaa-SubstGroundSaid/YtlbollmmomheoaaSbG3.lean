/-
  The law SubstGround for every input. Conditions: what came in lies as its parameters' types say.
-/
import Derived.Test.YtlbollmmomheoaaSbG1
import Derived.Test.YtlbollmmomheoaaSbG2
import Derived.Test.YtlbollmmomheoaaSbP2
import Derived.Test.YtlbollmmomheoaaSbY4
import Derived.Test.YtlbollmmomheoaaKitP
namespace Go.Proofs.Ytlbollmmomheoaa
open Go.RowKit

theorem Bind_to (A : Option Addr) (l : List BindD) (n ca : Nat) (hn : l.length = n) (v : ByteArray) (t : TermD) (w : World) (hL : BL w A ca l) (hl : l.length ≤ 100000) (m : List BindD) (h : bindD l v t = (m, 0)) :
    Calls Try.prog 11 #[.slice A n ca, .string v, .agg #[.bool t.v, .string t.name]] w fun e w' => (∃ q c out, RowKit.Hid (out = m) ∧ RowKit.Hid (BL w' q c out) ∧ e = .returned (.tuple #[.slice q out.length c, .int .i64 0])) ∧ Bel w w' := by
  subst hn
  refine (Bind_any A l ca v t w hL hl).mono ?_
  rintro e w' ⟨⟨q, c, out, n, HE, HO, rfl⟩, hg⟩
  obtain ⟨h1, rfl⟩ := Prod.mk.inj (HE.out.trans h)
  exact ⟨⟨q, c, out, Lib.hid h1, Lib.hid (OwnL.slice EB HO.out), rfl⟩, hg⟩
theorem vars_left2 {a : AtomD} {l : List BindD} {vs : List ByteArray} (hvs : vs = varsA a) (G : GInv (varsA a) (varsA a).length l) (k : Nat) (hk : k < vs.length) (rest : List ByteArray) (hr : ∀ s, s ∈ rest ↔ s ∈ vs ∧ s ≠ vs[k]) : varsA (applyA (restD l rest) a) = [vs[k]] := by
  subst hvs
  exact vars_left G k hk rest hr
theorem rest_lenG (l : List BindD) (vs : List ByteArray) : (restD l vs).length ≤ l.length := List.length_filter_le _ _
theorem sl_list {w : World} {A : Option Addr} {c : Nat} {l : List ByteArray} (h : SL w A c l) : ListAt w A l.length (l.map Value.string) := by
  refine ⟨by simp, ?_⟩
  by_cases h0 : l.length = 0
  · exact .inl h0
  · obtain ⟨b, o, e, hb, hc⟩ := sl_get h (by omega)
    refine .inr ⟨b, o, e, hb, fun j u hu => ?_⟩
    rw [List.getElem?_map] at hu
    cases hx : l[j]? with
    | none => rw [hx] at hu; cases hu
    | some x =>
      rw [hx] at hu
      injection hu with hu
      subst hu
      obtain ⟨hj, rfl⟩ := List.getElem?_eq_some_iff.1 hx
      exact hc j hj
theorem same_sl (A : Option Addr) (l : List ByteArray) (ca : Nat) (B : Option Addr) (x : ByteArray) (cb : Nat) (w : World) (h : l = [x]) (hA : SL w A ca l) (hB : SL w B cb [x]) :
    Calls Try.prog 30 #[.slice A l.length ca, .slice B 1 cb] w fun e w' => e = .returned (.bool true) ∧ Bel w w' := by
  subst h
  refine (same_any A B [x] [x] ca cb w (by unfold maxLen; simp) (by unfold maxLen; simp) (sl_list hA) (sl_list hB)).mono ?_
  rintro e w' ⟨rfl, n, rfl⟩
  exact ⟨ret_bool (sameS_all _ _ rfl (fun _ _ => rfl)), bel_drewN _ _⟩
set_option maxRecDepth 20000 in
set_option maxHeartbeats 32000000 in
theorem lawSubstGround (x : AtomD) (C : Option Addr) (cs : List ByteArray) (cc : Nat) (left : Int) (w : World) (hx : AtomOk x) (hC : SL w C cc cs) (hcl : cs.length ≤ 9223372036854775807) (hck : ∀ s ∈ cs, s.size ≤ 9223372036854775807)
    (hlf : -9223372036854775808 ≤ left ∧ left ≤ 9223372036854775807) :
    Calls Try.prog 4 #[.agg #[.string x.says, .string x.pred, .int .i64 x.n, .bool x.t0.v, .string x.t0.name, .bool x.t1.v, .string x.t1.name, .bool x.t2.v, .string x.t2.name, .bool x.t3.v, .string x.t3.name], .slice C cs.length cc, .int .i64 left] w fun e w' => e = .returned (.bool true) ∧ Bel w w' := by
  have hb := bel_alloc w (.cells #[.string x.says, .string x.pred, .int .i64 x.n, .bool x.t0.v, .string x.t0.name, .bool x.t1.v, .string x.t1.name, .bool x.t2.v, .string x.t2.name, .bool x.t3.v, .string x.t3.name] 43)
  have hX := AtomAt.new w x
  have HC := Lib.hid hC.items
  have HCK := Lib.hid hck
  clear hC hck
  have hLx := Lib.hid (fun W => light_any x W hx)
  have hLc := Lib.hid (fun W => rCheck_any x W hx)
  have hLv := Lib.hid (fun W (hg : Bel w W) => lightTx_any C cs cc 20 3000 W (HC.out.bel hg) hcl HCK.out)
  cases hxx : lightA x
  · rw [hxx] at hLx
    clear hxx
    go_enter Try.func4, Try.ntmps4
    go_wp2_with (first | (go_at_call 10; refine (lives4_any _).mono ?_; rintro e w1 ⟨rfl, hg⟩; have hX := hX.bel hg; have hb := hb.trans' hg; obtain ⟨c0, c1, c2, c3, c4, c5, c6, c7, c8, c9, c10⟩ := hX.cells; clear hg) | (go_at_call 21; refine (hLx.out _).mono ?_; rintro e w2 ⟨rfl, hg⟩; have hX := hX.bel hg; have hb := hb.trans' hg; obtain ⟨c0, c1, c2, c3, c4, c5, c6, c7, c8, c9, c10⟩ := hX.cells; clear hg))
    go_ret
    exact ⟨rfl, hb⟩
  rw [hxx] at hLx
  by_cases hcx : checkD x = 0
  case neg =>
    have hcx2 : (checkD x != 0) = true := by simpa using hcx
    generalize checkD x = er at hLc hcx2
    clear hxx hcx
    go_enter Try.func4, Try.ntmps4
    go_wp2_with (first | (go_at_call 10; refine (lives4_any _).mono ?_; rintro e w1 ⟨rfl, hg⟩; have hX := hX.bel hg; have hb := hb.trans' hg; obtain ⟨c0, c1, c2, c3, c4, c5, c6, c7, c8, c9, c10⟩ := hX.cells; clear hg) | (go_at_call 21; refine (hLx.out _).mono ?_; rintro e w2 ⟨rfl, hg⟩; have hX := hX.bel hg; have hb := hb.trans' hg; obtain ⟨c0, c1, c2, c3, c4, c5, c6, c7, c8, c9, c10⟩ := hX.cells; clear hg) | (go_at_call 22; refine (hLc.out _).mono ?_; rintro e w3 ⟨rfl, hg⟩; have hX := hX.bel hg; have hb := hb.trans' hg; clear hg))
    go_ret
    exact ⟨rfl, hb⟩
  have HCX := Lib.hid hcx
  rw [hcx] at hLc
  cases hvv : lightTx cs 20 3000
  · rw [hvv] at hLv
    clear hxx hcx hvv
    go_enter Try.func4, Try.ntmps4
    go_wp2_with (first | (go_at_call 10; refine (lives4_any _).mono ?_; rintro e w1 ⟨rfl, hg⟩; have hX := hX.bel hg; have hb := hb.trans' hg; obtain ⟨c0, c1, c2, c3, c4, c5, c6, c7, c8, c9, c10⟩ := hX.cells; clear hg) | (go_at_call 21; refine (hLx.out _).mono ?_; rintro e w2 ⟨rfl, hg⟩; have hX := hX.bel hg; have hb := hb.trans' hg; obtain ⟨c0, c1, c2, c3, c4, c5, c6, c7, c8, c9, c10⟩ := hX.cells; clear hg) | (go_at_call 22; refine (hLc.out _).mono ?_; rintro e w3 ⟨rfl, hg⟩; have hX := hX.bel hg; have hb := hb.trans' hg; clear hg) | (go_at_call 23; refine (hLv.out _ hb).mono ?_; rintro e w4 ⟨rfl, hg⟩; have hX := hX.bel hg; have hb := hb.trans' hg; obtain ⟨c0, c1, c2, c3, c4, c5, c6, c7, c8, c9, c10⟩ := hX.cells; clear hg))
    go_ret
    exact ⟨rfl, hb⟩
  rw [hvv] at hLv
  by_cases hc0 : cs.length = 0
  · have hci : ((cs.length : Int) == 0) = true := by rw [hc0]; rfl
    clear hxx hcx hvv hc0 hcl
    go_enter Try.func4, Try.ntmps4
    go_wp2_with (first | (go_at_call 10; refine (lives4_any _).mono ?_; rintro e w1 ⟨rfl, hg⟩; have hX := hX.bel hg; have hb := hb.trans' hg; obtain ⟨c0, c1, c2, c3, c4, c5, c6, c7, c8, c9, c10⟩ := hX.cells; clear hg) | (go_at_call 21; refine (hLx.out _).mono ?_; rintro e w2 ⟨rfl, hg⟩; have hX := hX.bel hg; have hb := hb.trans' hg; obtain ⟨c0, c1, c2, c3, c4, c5, c6, c7, c8, c9, c10⟩ := hX.cells; clear hg) | (go_at_call 22; refine (hLc.out _).mono ?_; rintro e w3 ⟨rfl, hg⟩; have hX := hX.bel hg; have hb := hb.trans' hg; clear hg) | (go_at_call 23; refine (hLv.out _ hb).mono ?_; rintro e w4 ⟨rfl, hg⟩; have hX := hX.bel hg; have hb := hb.trans' hg; obtain ⟨c0, c1, c2, c3, c4, c5, c6, c7, c8, c9, c10⟩ := hX.cells; clear hg))
    go_ret
    exact ⟨rfl, hb⟩
  have hcl20 : cs.length ≤ 20 := by
    have := lightTx_len hvv
    omega
  clear hxx hcx hvv hcl
  have hci : ¬ (cs.length : Int) = 0 := by omega
  have hVars := Lib.hid (fun W => rvars_own x W)
  have hV4 := varsA_len x
  have HVD := Lib.hid (vars_dist x)
  have HVN := Lib.hid (vars_ne HCX.out)
  obtain ⟨vs, hvs⟩ : ∃ vs, vs = varsA x := ⟨_, rfl⟩
  rw [← hvs] at hVars hV4 HVD HVN
  have HVS := Lib.hid hvs
  clear hvs
  go_enter Try.func4, Try.ntmps4
  go_wp2_with (first | (go_at_call 10; refine (lives4_any _).mono ?_; rintro e w1 ⟨rfl, hg⟩; have hX := hX.bel hg; have hb := hb.trans' hg; obtain ⟨c0, c1, c2, c3, c4, c5, c6, c7, c8, c9, c10⟩ := hX.cells; clear hg) | (go_at_call 21; refine (hLx.out _).mono ?_; rintro e w2 ⟨rfl, hg⟩; have hX := hX.bel hg; have hb := hb.trans' hg; obtain ⟨c0, c1, c2, c3, c4, c5, c6, c7, c8, c9, c10⟩ := hX.cells; clear hg) | (go_at_call 22; refine (hLc.out _).mono ?_; rintro e w3 ⟨rfl, hg⟩; have hX := hX.bel hg; have hb := hb.trans' hg; clear hg) | (go_at_call 23; refine (hLv.out _ hb).mono ?_; rintro e w4 ⟨rfl, hg⟩; have hX := hX.bel hg; have hb := hb.trans' hg; obtain ⟨c0, c1, c2, c3, c4, c5, c6, c7, c8, c9, c10⟩ := hX.cells; clear hg) | (go_at_call 24; refine (hVars.out _).mono ?_; rintro e w5 ⟨⟨V, cv, HV, rfl⟩, hg⟩; have hX := hX.bel hg; have hb := hb.trans' hg; clear hg))
  have HX := Lib.hid hX
  have HB := Lib.hid hb
  clear hX hb hLx hLc hLv hVars c0 c1 c2 c3 c4 c5 c6 c7 c8 c9 c10
  go_loopw [8, 9, 10, 11, 12] (fun a8 i _ _ _ wr => ∃ (k : Nat) (l : List BindD) (q : Option Addr) (c : Nat), k ≤ vs.length ∧ i = .int .i64 k ∧ a8 = .slice q l.length c ∧ l.length ≤ 4 ∧ RowKit.Hid (GInv vs k l ∧ BL wr q c l ∧ Bel w5 wr)) (fun _ i _ _ _ _ => vs.length - (intOf i).toNat)
  case atStart => exact ⟨0, [], none, 0, Nat.zero_le _, rfl, rfl, by simp, Lib.hid ⟨ginv_zero _, SliceAt.mkNil _, Below.refl _ _⟩⟩
  case round =>
    obtain ⟨k, l, q, c, hk, rfl, rfl, hll, H⟩ := hrel
    have HG := Lib.hid H.out.1
    have HL := Lib.hid H.out.2.1
    have HW := Lib.hid H.out.2.2
    clear H
    by_cases hlt : k < vs.length
    · have hj : k % cs.length < cs.length := Nat.mod_lt _ (by omega)
      obtain ⟨b, o, rfl, _, hc⟩ := si_get ((HC.out.bel HB.out).bel HW.out) (by omega)
      have c1 := hc _ hj
      obtain ⟨bv, ov, rfl, _, hcv⟩ := sl_get (HV.out.bel HW.out) (by omega)
      have d1 := hcv k hlt
      have hcz := HCK.out _ (List.getElem_mem hj)
      have hve := HVN.out k hlt
      have hrem : (k : Int).tmod (cs.length : Int) = ((k % cs.length : Nat) : Int) := rfl
      have HST := Lib.hid (fun (h1 : termB ⟨false, cs[k % cs.length]⟩ = true) => ginv_step (c := cs[k % cs.length]) HVD.out hlt HG.out h1 (termB_ne h1 termB_emp) hve hcz)
      clear hc hcv hve
      generalize hjj : k % cs.length = j at *
      have hj0 : (0 : Int) ≤ j := by omega
      have hj1 : (j : Int) < cs.length := by omega
      have hk0 : (0 : Int) ≤ k := by omega
      have hk1 : (k : Int) < vs.length := by omega
      generalize cs[j] = s at c1 hcz HST
      generalize vs[k] = v at d1 HST
      have hT := Lib.hid (fun W => rTerm_any false s W (by unfold maxLen; exact hcz))
      clear hjj
      cases ht : termB ⟨false, s⟩
      · rw [ht] at hT
        clear HST
        go_wp2_with (first | (go_at_call 13; refine (c_any _ _).mono ?_; rintro e w6 ⟨rfl, hg⟩; have HW := Lib.hid (HW.out.trans' hg); clear hg) | (go_at_call 25; refine (hT.out _).mono ?_; rintro e w7 ⟨rfl, hg⟩; have HW := Lib.hid (HW.out.trans' hg); clear hg))
        go_ret
        exact ⟨rfl, HB.out.trans' HW.out⟩
      · rw [ht] at hT
        obtain ⟨m, hbd, hgm⟩ := HST.out ht
        have HGM := Lib.hid hgm
        have HBD := Lib.hid hbd
        clear HST ht hbd hgm
        go_wp2_with (first | (go_at_call 13; refine (c_any _ _).mono ?_; rintro e w6 ⟨rfl, hg⟩; have HW := Lib.hid (HW.out.trans' hg); have HL := Lib.hid (HL.out.bel hg); have d1 := cell_bel d1 hg; clear hg) | (go_at_call 25; refine (hT.out _).mono ?_; rintro e w7 ⟨rfl, hg⟩; have HW := Lib.hid (HW.out.trans' hg); have HL := Lib.hid (HL.out.bel hg); have d1 := cell_bel d1 hg; clear hg))
        have h7 : Bel w7 w7.drew := bel_drew' (Below.refl _ _)
        go_region_held3 (fun w' => w'.cell? ⟨bv, ov + k, none⟩ = some (.string v)) (first | exact cell_bel d1 h7 | go_keep | trivial)
          (first | (go_at_call 13; refine (c_any _ _).mono ?_; rintro e w8 ⟨rfl, hg⟩; have h7 := h7.trans' hg; clear hg) | (go_at_call 11; refine (Bind_to q l l.length c rfl v ⟨false, s⟩ _ (HL.out.bel h7) (by omega) m HBD.out).mono ?_; rintro e w9 ⟨⟨q9, k9, o9, HE9, HL9, rfl⟩, hg⟩; have h7 := h7.trans' hg; clear hg))
        all_goals go_wp2
        all_goals go_roundw
        all_goals first
          | (case rel => exact ⟨k + 1, o9, q9, k9, by omega, by go_num, rfl, (by rw [HE9.out, HGM.out.len]; omega), Lib.hid ⟨by rw [HE9.out]; exact HGM.out, HL9.out, HW.out.trans' h7⟩⟩)
          | (simp [intOf]; omega)
    · obtain rfl : k = vs.length := by omega
      have hX := HX.out.bel HW.out
      have hb := HB.out.trans' HW.out
      obtain ⟨c0, c1, c2, c3, c4, c5, c6, c7, c8, c9, c10⟩ := hX.cells
      have HGX : RowKit.Hid (GInv (varsA x) (varsA x).length l) := Lib.hid (by rw [← HVS.out]; exact HG.out)
      have hga := Lib.hid (ground_all HGX.out HCX.out)
      have hlen : ((l.length : Int) != (vs.length : Int)) = false := by rw [HG.out.len]; simp
      obtain ⟨y, hy⟩ : ∃ y, y = applyA l x := ⟨_, rfl⟩
      have HY := Lib.hid hy
      have hok : AtomOk y := by rw [hy]; exact apply_okA HG.out hx
      have hG := Lib.hid (fun W => rGround_any y W)
      have hK := Lib.hid (fun W => rCheck_any y W hok)
      rw [show groundD y = true from by rw [hy]; exact hga.out.1] at hG
      rw [show checkD y = 0 from by rw [hy]; exact hga.out.2] at hK
      have hA := Lib.hid (Apply_len q l l.length c rfl x wr HL.out (by omega))
      rw [← hy] at hA
      clear hy hga hok hk hlt
      by_cases hv0 : vs.length = 0
      · have hv1 : ((vs.length : Int) == 0) = true := by rw [hv0]; rfl
        have HYX : RowKit.Hid (y = x) := Lib.hid (by
          have : l = [] := List.eq_nil_of_length_eq_zero (by rw [HG.out.len]; exact hv0)
          rw [HY.out, this]; exact apply_nil x)
        have hqe : eqA x y = true := (eqA_iff _ _).2 HYX.out.symm
        have hqq := eql_atom x y
        clear hv0 hV4 hll
        go_wp2_with (first | (go_at_call 26; refine hA.out.mono ?_; rintro e w10 ⟨⟨y1, HY1, rfl⟩, hg⟩; obtain rfl := HY1.out; have hY := AtomAt.new w10 y1; have g2 := hg.trans' (bel_alloc w10 (.cells #[.string y1.says, .string y1.pred, .int .i64 y1.n, .bool y1.t0.v, .string y1.t0.name, .bool y1.t1.v, .string y1.t1.name, .bool y1.t2.v, .string y1.t2.name, .bool y1.t3.v, .string y1.t3.name] 43)); have hX := hX.bel g2; have hb := hb.trans' g2; obtain ⟨f0, f1, f2, f3, f4, f5, f6, f7, f8, f9, f10⟩ := hY.cells; clear hg g2) | (go_at_call 27; refine (hG.out _).mono ?_; rintro e w11 ⟨rfl, hg⟩; have hY := hY.bel hg; have hX := hX.bel hg; have hb := hb.trans' hg; obtain ⟨f0, f1, f2, f3, f4, f5, f6, f7, f8, f9, f10⟩ := hY.cells; clear hg) | (go_at_call 22; refine (hK.out _).mono ?_; rintro e w12 ⟨rfl, hg⟩; have hY := hY.bel hg; have hX := hX.bel hg; have hb := hb.trans' hg; obtain ⟨c0, c1, c2, c3, c4, c5, c6, c7, c8, c9, c10⟩ := hX.cells; obtain ⟨f0, f1, f2, f3, f4, f5, f6, f7, f8, f9, f10⟩ := hY.cells; clear hg))
        go_ret
        exact ⟨rfl, hb⟩
      · have hv1 : ((vs.length : Int) == 0) = false := by rw [beq_eq_false_iff_ne]; omega
        have hpr := pick_range left vs.length (by omega)
        obtain ⟨kk, hkk, hkl⟩ : ∃ kk : Nat, pickI left vs.length = kk ∧ kk < vs.length := ⟨(pickI left vs.length).toNat, by omega, by omega⟩
        have hPk := Lib.hid (fun W => pick_any left vs.length W (by omega) (by omega) hlf.1 hlf.2)
        rw [hkk] at hPk
        have HLL := Lib.hid HG.out.len
        clear hpr hkk
        go_wp2_with (first | (go_at_call 26; refine hA.out.mono ?_; rintro e w10 ⟨⟨y1, HY1, rfl⟩, hg⟩; obtain rfl := HY1.out; have hY := AtomAt.new w10 y1; have g2 := hg.trans' (bel_alloc w10 (.cells #[.string y1.says, .string y1.pred, .int .i64 y1.n, .bool y1.t0.v, .string y1.t0.name, .bool y1.t1.v, .string y1.t1.name, .bool y1.t2.v, .string y1.t2.name, .bool y1.t3.v, .string y1.t3.name] 43)); have hX := hX.bel g2; have HW := Lib.hid (HW.out.trans' g2); have HL := Lib.hid (HL.out.bel g2); have hb := hb.trans' g2; obtain ⟨f0, f1, f2, f3, f4, f5, f6, f7, f8, f9, f10⟩ := hY.cells; clear hg g2) | (go_at_call 27; refine (hG.out _).mono ?_; rintro e w11 ⟨rfl, hg⟩; have hY := hY.bel hg; have hX := hX.bel hg; have hb := hb.trans' hg; have HW := Lib.hid (HW.out.trans' hg); have HL := Lib.hid (HL.out.bel hg); obtain ⟨f0, f1, f2, f3, f4, f5, f6, f7, f8, f9, f10⟩ := hY.cells; clear hg) | (go_at_call 22; refine (hK.out _).mono ?_; rintro e w12 ⟨rfl, hg⟩; have hX := hX.bel hg; have hb := hb.trans' hg; have HW := Lib.hid (HW.out.trans' hg); have HL := Lib.hid (HL.out.bel hg); obtain ⟨c0, c1, c2, c3, c4, c5, c6, c7, c8, c9, c10⟩ := hX.cells; clear hg f0 f1 f2 f3 f4 f5 f6 f7 f8 f9 f10) | (go_at_call 28; refine (hPk.out _).mono ?_; rintro e w13 ⟨rfl, rfl⟩))
        obtain ⟨bv, ov, rfl, _, _⟩ := sl_get HV.out (by omega)
        have hle := HV.out.le
        have HVW := Lib.hid (HV.out.bel HW.out)
        obtain ⟨tk, htk⟩ : ∃ tk, tk = vs.take kk := ⟨_, rfl⟩
        have HTE := Lib.hid htk
        have HTK := Lib.hid (HVW.out.take kk)
        rw [← htk] at HTK
        have HTL : RowKit.Hid (tk.length = kk) := Lib.hid (by rw [htk, List.length_take]; omega)
        clear htk
        have HRM := Lib.hid (rest_mem HVD.out kk hkl)
        have HONE : RowKit.Hid (vs.drop kk = vs[kk] :: vs.drop (kk + 1)) := Lib.hid (List.drop_eq_getElem_cons hkl)
        have HDK : RowKit.Hid (SL w12 (some ⟨bv, ov + kk, none⟩) (cv - kk) (vs.drop kk)) := Lib.hid (by have := HVW.out.dropCap kk; rwa [Nat.mul_one] at this)
        have hwr : IntKind.i64.wrap ((kk : Int) + 1) = (kk : Int) + 1 := by
          have := wrap_small (kk + 1) (by omega)
          rwa [show ((kk + 1 : Nat) : Int) = (kk : Int) + 1 by omega] at this
        have hcase : (cv = kk + 1 ∧ SL w12 (some ⟨bv, ov, none⟩) 0 (vs.drop (kk + 1)) ∧ (vs.drop (kk + 1)).length = vs.length - (kk + 1)) ∨ (¬ cv = kk + 1 ∧ SL w12 (some ⟨bv, ov + (kk + 1), none⟩) (cv - (kk + 1)) (vs.drop (kk + 1)) ∧ (vs.drop (kk + 1)).length = vs.length - (kk + 1)) := by
          by_cases e : cv = kk + 1
          · exact .inl ⟨e, by rw [List.drop_of_length_le (by omega)]; exact HVW.out.empty, by rw [List.length_drop]⟩
          · exact .inr ⟨e, by have := HVW.out.dropCap (kk + 1); rwa [Nat.mul_one] at this, List.length_drop⟩
        have hk0 : (0 : Int) ≤ kk := by omega
        have hk1 : (kk : Int) < vs.length := by omega
        have hk2 : (kk : Int) + 1 ≤ cv := by omega
        have hk3 : (kk : Int) ≤ vs.length := by omega
        have hk4 : (kk : Int) ≤ cv := by omega
        have hk5 : (0 : Int) ≤ (kk : Int) + 1 := by omega
        have hk6 : (kk : Int) + 1 ≤ vs.length := by omega
        have hk7 : (vs.length : Int) ≤ cv := by omega
        have HLF := Lib.hid (fun rest hr => vars_left HGX.out kk (by rw [← HVS.out]; exact hkl) rest hr)
        have HXW := Lib.hid hX
        have HBW := Lib.hid hb
        clear hA hG hK hPk hlen hX hb c0 c1 c2 c3 c4 c5 c6 c7 c8 c9 c10 hv1
        rcases hcase with ⟨hce, hD, hDL⟩ | ⟨hce, hD, hDL⟩
        case' inl => have hcf := Lib.hid hce; clear hce; have hce2 : ((cv : Int) == (kk : Int) + 1) = true := by rw [hcf.out]; simp
        case' inr => have hce2 := hce
        all_goals
          have HD := Lib.hid hD
          have HDL := Lib.hid hDL
          clear hD hDL
          have hd : Bel w12 w12.drew := bel_drew' (Below.refl _ _)
          have HLE : RowKit.Hid (tk.length + (vs.length - (kk + 1)) ≤ 2000000) := Lib.hid (by rw [HTL.out]; omega)
          have hOw := Lib.hid (ownS_any (some ⟨bv, ov, none⟩) tk kk _ HTL.out w12.drew (HTK.out.bel hd) (by rw [HTL.out]; omega))
          go_region_held3 (fun _ => True) (trivial)
            (first | (go_at_call 29; refine hOw.out.mono ?_; rintro e w14 ⟨⟨q14, k14, HO14, rfl⟩, hg⟩; have hd14 := hd.trans' hg; clear hg) | (refine step_pushesS rfl (.tmp 100) (.tmp 104) 39 Try.underlying39 rfl rfl rfl HO14.out (HD.out.bel hd14) HDL.out HLE.out ?_; intro q15 k15 w15 out15 HX15 HO15 _ _; have hd15 := hd.trans' HO15.out.bel))
          all_goals
            have HRS : RowKit.Hid (∀ s, s ∈ out15 ↔ s ∈ vs ∧ s ≠ vs[kk]) := Lib.hid (by rw [HX15.out, HTE.out]; exact HRM.out)
            have HLT : RowKit.Hid (varsA (applyA (restD l out15) x) = [vs[kk]]) := Lib.hid (vars_left2 HVS.out HGX.out kk hkl out15 HRS.out)
            have hv20 : out15.length ≤ 20 := by rw [HX15.out, List.length_append, HTL.out, HDL.out]; omega
            have hl20 : l.length ≤ 20 := by rw [HLL.out]; omega
            have hR20 := Lib.hid (Nat.le_trans (rest_lenG l out15) hl20)
            have hd := hd15
            have hX := HXW.out.bel hd
            have HL15 := Lib.hid (HL.out.bel hd)
            have HV15 := Lib.hid ((OwnL.slice ES HO15.out).items)
            have h1 : (vs.drop kk).take 1 = [vs[kk]] := by rw [HONE.out]; rfl
            have HONE1 : RowKit.Hid (SL w15 (some ⟨bv, ov + kk, none⟩) (cv - kk) [vs[kk]]) := Lib.hid (by
              have := (HDK.out.bel hd).take 1
              rw [h1] at this
              exact this)
            clear h1
            have hb := Lib.hid (HBW.out.trans' hd)
            have hne0 : ¬ cv = kk := by omega
            have hwr2 := hwr
            have hd2 : Bel w15 w15.drew := bel_drew' (Below.refl _ _)
            have hX := hX.drew
            clear hd hd14 hd15 HRS hce2
            go_wp2
            obtain ⟨c0, c1, c2, c3, c4, c5, c6, c7, c8, c9, c10⟩ := hX.cells
            go_region_held3 (fun w' => (w'.cell? ⟨w.heap.size, 0, none⟩ = some (.string x.says) ∧ w'.cell? ⟨w.heap.size, 1, none⟩ = some (.string x.pred) ∧ w'.cell? ⟨w.heap.size, 2, none⟩ = some (.int .i64 x.n) ∧ w'.cell? ⟨w.heap.size, 3, none⟩ = some (.bool x.t0.v) ∧ w'.cell? ⟨w.heap.size, 4, none⟩ = some (.string x.t0.name) ∧ w'.cell? ⟨w.heap.size, 5, none⟩ = some (.bool x.t1.v) ∧ w'.cell? ⟨w.heap.size, 6, none⟩ = some (.string x.t1.name) ∧ w'.cell? ⟨w.heap.size, 7, none⟩ = some (.bool x.t2.v) ∧ w'.cell? ⟨w.heap.size, 8, none⟩ = some (.string x.t2.name) ∧ w'.cell? ⟨w.heap.size, 9, none⟩ = some (.bool x.t3.v) ∧ w'.cell? ⟨w.heap.size, 10, none⟩ = some (.string x.t3.name))) (first | exact hX.cells | go_keep | trivial)
              (first | (go_at_call 19; refine (Restrict_own q l l.length c rfl q15 out15 out15.length k15 rfl _ (HL15.out.bel hd2) hl20 (HV15.out.bel hd2) hv20).mono ?_; rintro e w16 ⟨⟨q16, k16, o16, HE16, HO16, rfl⟩, hg⟩; have hX := hX.bel hg; have hd2 := hd2.trans' hg; have hlo : o16.length ≤ 1000000 := (Nat.le_trans (Nat.le_of_eq (congrArg List.length HE16.out)) (Nat.le_trans hR20.out (by omega))); clear hg) | (go_at_call 26; refine (Apply_len q16 o16 o16.length k16 rfl x _ (OwnL.slice EB HO16.out) hlo).mono ?_; rintro e w17 ⟨⟨y17, HY17, rfl⟩, hg⟩; have hX := hX.bel hg; have hd2 := hd2.trans' hg; clear hg) | (go_at_call 24; refine (rvars_own y17 _).mono ?_; rintro e w18 ⟨⟨A18, c18, HV18, rfl⟩, hg⟩; have hX := hX.bel hg; have hd2 := hd2.trans' hg; have HSV := Lib.hid (same_sl A18 (varsA y17) c18 (some ⟨bv, ov + kk, none⟩) vs[kk] _ w18 (by rw [HY17.out, HE16.out]; exact HLT.out) HV18.out (HONE1.out.bel hd2)); clear hg) | (go_at_call 30; (first | (have hc1 : cv - kk = 1 := by (have := hcf.out; omega)); (have HSV1 := HSV.out); (rw [hc1] at HSV1); (refine HSV1.mono ?_) | (refine HSV.out.mono ?_)); rintro e w19 ⟨rfl, hg⟩; have hX := hX.bel hg; have hd2 := hd2.trans' hg; clear hg))
            all_goals go_wp2
            all_goals go_ret
            all_goals exact ⟨rfl, hb.out.trans' hd2⟩
end Go.Proofs.Ytlbollmmomheoaa
