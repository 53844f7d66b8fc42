/-
  The walk of the law TermTexts. Conditions: what came in lies as its parameters' types say; the library's variable holds some int.
-/
import Derived.Test.YtobelhfhciafcaaDoorTmS
import Derived.Deep.RegionHeld
namespace Go.Proofs.YtobelhfhciafcaaDoor
open Go.RowKit
theorem ListAt.bel3 {w w' : World} {A : Option Addr} {n : Nat} {xs : List Value} (h : ListAt w A n xs) (hg : Bel w w') : ListAt w' A n xs := by
  obtain ⟨h1, h2⟩ := h
  refine ⟨h1, ?_⟩
  rcases h2 with h2 | ⟨b, o, rfl, hb, hc⟩
  · exact .inl h2
  · exact .inr ⟨b, o, rfl, Nat.lt_of_lt_of_le hb hg.size, fun j u hu => cell_later hg (hc j u hu)⟩
theorem setArg_n (a : AtomD) (k : Nat) (t : TermD) : (setArg a k t).n = a.n := by
  unfold setArg; split <;> rfl
theorem more_eq (a : AtomD) (k : Nat) (t : TermD) (hn : a.n = (k : Int)) : setN (setArg ⟨a.says, a.pred, (k : Int), a.t0, a.t1, a.t2, a.t3⟩ k t) ((k : Int) + 1) = moreD a k t := by
  unfold moreD
  obtain ⟨s, p, n, t0, t1, t2, t3⟩ := a
  simp only at hn
  subst hn
  rfl
set_option maxRecDepth 20000 in
set_option maxHeartbeats 8000000 in
theorem lawTermTexts (a : AtomD) (t : TermD) (w : World) (ha : AtomOk a) (ht : t.name.size ≤ 9223372036854775807) (hm : MaxAt w) :
    Calls Tryd.prog 7 #[.agg #[.string a.says, .string a.pred, .int .i64 a.n, .bool a.t0.v, .string a.t0.name, .bool a.t1.v, .string a.t1.name, .bool a.t2.v, .string a.t2.name, .bool a.t3.v, .string a.t3.name], .agg #[.bool t.v, .string t.name]] w fun e w' => e = .returned (.bool true) ∧ Bel w w' := by
  have hb := (bel_alloc w (.cells #[.string a.says, .string a.pred, .int .i64 a.n, .bool a.t0.v, .string a.t0.name, .bool a.t1.v, .string a.t1.name, .bool a.t2.v, .string a.t2.name, .bool a.t3.v, .string a.t3.name] 27)).trans' (bel_alloc (w.alloc (.cells #[.string a.says, .string a.pred, .int .i64 a.n, .bool a.t0.v, .string a.t0.name, .bool a.t1.v, .string a.t1.name, .bool a.t2.v, .string a.t2.name, .bool a.t3.v, .string a.t3.name] 27)) (.cells #[.bool t.v, .string t.name] 24))
  have hA := (AtomAt.new w a).bel (bel_alloc (w.alloc (.cells #[.string a.says, .string a.pred, .int .i64 a.n, .bool a.t0.v, .string a.t0.name, .bool a.t1.v, .string a.t1.name, .bool a.t2.v, .string a.t2.name, .bool a.t3.v, .string a.t3.name] 27)) (.cells #[.bool t.v, .string t.name] 24))
  have hT0 := TermAt.new (w.alloc (.cells #[.string a.says, .string a.pred, .int .i64 a.n, .bool a.t0.v, .string a.t0.name, .bool a.t1.v, .string a.t1.name, .bool a.t2.v, .string a.t2.name, .bool a.t3.v, .string a.t3.name] 27)) t
  rw [show (w.alloc (.cells #[.string a.says, .string a.pred, .int .i64 a.n, .bool a.t0.v, .string a.t0.name, .bool a.t1.v, .string a.t1.name, .bool a.t2.v, .string a.t2.name, .bool a.t3.v, .string a.t3.name] 27)).heap.size = w.heap.size + 1 by simp] at hT0
  rcases Bool.eq_false_or_eq_true (lightA a) with g1 | g1
  case inr =>
    go_enter Tryd.func7, Tryd.ntmps7
    go_wp2_with (fail)
    refine (tlives_any _ (hm.bel hb)).mono ?_
    rintro e w1 ⟨rfl, hg⟩
    have hA := hA.bel hg
    have hT0 := hT0.bel hg
    obtain ⟨c0, c1, c2, c3, c4, c5, c6, c7, c8, c9, c10⟩ := hA.cells
    obtain ⟨d0, d1⟩ := hT0.cells
    have hb := hb.trans' hg
    clear hg
    go_wp2_with (fail)
    refine (light_any a _ ha).mono ?_
    rintro e w1 ⟨rfl, hg⟩
    have hA := hA.bel hg
    have hT0 := hT0.bel hg
    obtain ⟨c0, c1, c2, c3, c4, c5, c6, c7, c8, c9, c10⟩ := hA.cells
    obtain ⟨d0, d1⟩ := hT0.cells
    have hb := hb.trans' hg
    clear hg
    go_wp2
    all_goals go_ret
    all_goals exact ⟨rfl, hb⟩
  by_cases g2 : t.name.size ≤ 300
  case neg =>
    have g2 : ¬ (t.name.size : Int) ≤ 300 := by omega
    go_enter Tryd.func7, Tryd.ntmps7
    go_wp2_with (fail)
    refine (tlives_any _ (hm.bel hb)).mono ?_
    rintro e w1 ⟨rfl, hg⟩
    have hA := hA.bel hg
    have hT0 := hT0.bel hg
    obtain ⟨c0, c1, c2, c3, c4, c5, c6, c7, c8, c9, c10⟩ := hA.cells
    obtain ⟨d0, d1⟩ := hT0.cells
    have hb := hb.trans' hg
    clear hg
    go_wp2_with (fail)
    refine (light_any a _ ha).mono ?_
    rintro e w1 ⟨rfl, hg⟩
    have hA := hA.bel hg
    have hT0 := hT0.bel hg
    obtain ⟨c0, c1, c2, c3, c4, c5, c6, c7, c8, c9, c10⟩ := hA.cells
    obtain ⟨d0, d1⟩ := hT0.cells
    have hb := hb.trans' hg
    clear hg
    go_wp2
    all_goals go_ret
    all_goals exact ⟨rfl, hb⟩
  have g2' : (t.name.size : Int) ≤ 300 := by omega
  rcases Bool.eq_false_or_eq_true (checkD a == 0) with g3 | g3
  case inr =>
    have g3' : (checkD a != 0) = true := by rw [bne, g3]; rfl
    go_enter Tryd.func7, Tryd.ntmps7
    go_wp2_with (fail)
    refine (tlives_any _ (hm.bel hb)).mono ?_
    rintro e w1 ⟨rfl, hg⟩
    have hA := hA.bel hg
    have hT0 := hT0.bel hg
    obtain ⟨c0, c1, c2, c3, c4, c5, c6, c7, c8, c9, c10⟩ := hA.cells
    obtain ⟨d0, d1⟩ := hT0.cells
    have hb := hb.trans' hg
    clear hg
    go_wp2_with (fail)
    refine (light_any a _ ha).mono ?_
    rintro e w1 ⟨rfl, hg⟩
    have hA := hA.bel hg
    have hT0 := hT0.bel hg
    obtain ⟨c0, c1, c2, c3, c4, c5, c6, c7, c8, c9, c10⟩ := hA.cells
    obtain ⟨d0, d1⟩ := hT0.cells
    have hb := hb.trans' hg
    clear hg
    go_wp2_with (fail)
    refine (check_any a _ ha (hm.bel hb)).mono ?_
    rintro e w1 ⟨rfl, hg⟩
    have hA := hA.bel hg
    have hT0 := hT0.bel hg
    obtain ⟨c0, c1, c2, c3, c4, c5, c6, c7, c8, c9, c10⟩ := hA.cells
    obtain ⟨d0, d1⟩ := hT0.cells
    have hb := hb.trans' hg
    clear hg
    go_wp2
    all_goals go_ret
    all_goals exact ⟨rfl, hb⟩
  have g3' : (checkD a != 0) = false := by rw [bne, g3]; rfl
  rcases Bool.eq_false_or_eq_true (termB ⟨t.v, t.name⟩) with g4 | g4
  case inr =>
    go_enter Tryd.func7, Tryd.ntmps7
    go_wp2_with (fail)
    refine (tlives_any _ (hm.bel hb)).mono ?_
    rintro e w1 ⟨rfl, hg⟩
    have hA := hA.bel hg
    have hT0 := hT0.bel hg
    obtain ⟨c0, c1, c2, c3, c4, c5, c6, c7, c8, c9, c10⟩ := hA.cells
    obtain ⟨d0, d1⟩ := hT0.cells
    have hb := hb.trans' hg
    clear hg
    go_wp2_with (fail)
    refine (light_any a _ ha).mono ?_
    rintro e w1 ⟨rfl, hg⟩
    have hA := hA.bel hg
    have hT0 := hT0.bel hg
    obtain ⟨c0, c1, c2, c3, c4, c5, c6, c7, c8, c9, c10⟩ := hA.cells
    obtain ⟨d0, d1⟩ := hT0.cells
    have hb := hb.trans' hg
    clear hg
    go_wp2_with (fail)
    refine (check_any a _ ha (hm.bel hb)).mono ?_
    rintro e w1 ⟨rfl, hg⟩
    have hA := hA.bel hg
    have hT0 := hT0.bel hg
    obtain ⟨c0, c1, c2, c3, c4, c5, c6, c7, c8, c9, c10⟩ := hA.cells
    obtain ⟨d0, d1⟩ := hT0.cells
    have hb := hb.trans' hg
    clear hg
    go_wp2_with (fail)
    refine (term_any t.v t.name _ (by exact ht) (hm.bel hb)).mono ?_
    rintro e w1 ⟨rfl, hg⟩
    have hA := hA.bel hg
    have hT0 := hT0.bel hg
    obtain ⟨c0, c1, c2, c3, c4, c5, c6, c7, c8, c9, c10⟩ := hA.cells
    obtain ⟨d0, d1⟩ := hT0.cells
    have hb := hb.trans' hg
    clear hg
    go_wp2
    all_goals go_ret
    all_goals exact ⟨rfl, hb⟩
  have hca : checkD a = 0 := by simpa using g3
  have hva := (valid_of hca).cnt
  have SA := AtomOk.sm g1
  obtain ⟨L, hL⟩ : ∃ L, L = (argsD a).take (cntI a.n) := ⟨_, rfl⟩
  have hLL : L.length = cntI a.n := by rw [hL]; exact first_len a
  obtain ⟨k0, hk0⟩ : ∃ k0, k0 = cntI a.n := ⟨_, rfl⟩
  have hk4 := cntI_le a.n
  rw [← hk0] at hva hLL hk4
  have HL := Lib.hid hL
  have HLL := Lib.hid hLL
  have HK0 := Lib.hid hk0
  obtain ⟨xs, hxs⟩ : ∃ xs, xs = textD a := ⟨_, rfl⟩
  obtain ⟨xf, hxf⟩ : ∃ xf, frontD a = xf := ⟨_, rfl⟩
  have HXS := Lib.hid hxs
  have HXF := Lib.hid hxf
  have hxf2 : a.says ++ ⟨#[32, 115, 97, 121, 115, 32]⟩ ++ a.pred = xf := hxf
  have hfs : xf.size ≤ 2010 := by rw [← hxf]; exact front_le SA
  have hfs1 : (xf.size : Int) ≤ xs.size := by rw [← hxf, hxs, text_size]; omega
  have hss : xs.size ≤ 7000 := by
    rw [hxs, text_size]
    have h1 := join_le ((argsD a).take (cntI a.n)) (by rw [first_len]; exact cntI_le _) (fun t ht => SA.args t (List.mem_of_mem_take ht))
    have h2 := front_le SA
    unfold argL
    split
    · simp; omega
    · simp only [List.length_cons, List.length_append, List.length_nil]; omega
  have hex : xs.extract 0 xf.size = xf := by rw [← hxf, hxs]; exact text_front a
  have hno : (xs.toList == xf.toList) = ((k0 : Int) == 0) := by rw [← hxf, hxs, hk0]; exact text_none a
  have hno2 : (xs.toList == xf.toList) = (a.n == 0) := by rw [hno, hva]
  have hs1 := SA.says
  have hs2 := SA.pred
  clear hL hLL hk0 hca hxs hxf hno
  go_enter Tryd.func7, Tryd.ntmps7
  go_wp2_with (fail)
  refine (tlives_any _ (hm.bel hb)).mono ?_
  rintro e w1 ⟨rfl, hg⟩
  have hA := hA.bel hg
  have hT0 := hT0.bel hg
  obtain ⟨c0, c1, c2, c3, c4, c5, c6, c7, c8, c9, c10⟩ := hA.cells
  obtain ⟨d0, d1⟩ := hT0.cells
  have hb := hb.trans' hg
  clear hg
  go_wp2_with (fail)
  refine (light_any a _ ha).mono ?_
  rintro e w1 ⟨rfl, hg⟩
  have hA := hA.bel hg
  have hT0 := hT0.bel hg
  obtain ⟨c0, c1, c2, c3, c4, c5, c6, c7, c8, c9, c10⟩ := hA.cells
  obtain ⟨d0, d1⟩ := hT0.cells
  have hb := hb.trans' hg
  clear hg
  go_wp2_with (fail)
  refine (check_any a _ ha (hm.bel hb)).mono ?_
  rintro e w1 ⟨rfl, hg⟩
  have hA := hA.bel hg
  have hT0 := hT0.bel hg
  obtain ⟨c0, c1, c2, c3, c4, c5, c6, c7, c8, c9, c10⟩ := hA.cells
  obtain ⟨d0, d1⟩ := hT0.cells
  have hb := hb.trans' hg
  clear hg
  go_wp2_with (fail)
  refine (term_any t.v t.name _ (by exact ht) (hm.bel hb)).mono ?_
  rintro e w1 ⟨rfl, hg⟩
  have hA := hA.bel hg
  have hT0 := hT0.bel hg
  obtain ⟨c0, c1, c2, c3, c4, c5, c6, c7, c8, c9, c10⟩ := hA.cells
  obtain ⟨d0, d1⟩ := hT0.cells
  have hb := hb.trans' hg
  clear hg
  go_wp2_with (fail)
  refine (text_any a _ SA).mono ?_
  rw [← HXS.out]
  rintro e w1 ⟨rfl, hg⟩
  have hA := hA.bel hg
  have hT0 := hT0.bel hg
  obtain ⟨c0, c1, c2, c3, c4, c5, c6, c7, c8, c9, c10⟩ := hA.cells
  obtain ⟨d0, d1⟩ := hT0.cells
  have hb := hb.trans' hg
  clear hg
  go_wp2_with (fail)
  go_wp2_with (go_at_call 16; refine (vars_any a _ L HL.out).mono ?_; rintro e w5 ⟨⟨A3, k3, hV, rfl⟩, hg⟩; have hA := hA.bel hg; have hT0 := hT0.bel hg; have hb := hb.trans' hg; clear hg)
  go_loopw [8, 9] (fun c8 i wr => ∃ k q : Nat, k ≤ k0 ∧ i = .int .i64 k ∧ c8 = .int .i64 q ∧ q ≤ k ∧ RowKit.Hid (Bel w5 wr) ∧ RowKit.Hid (q = (namesD true (L.take k)).length)) (fun _ i _ => k0 - (intOf i).toNat)
  case atStart => exact ⟨0, 0, Nat.zero_le _, rfl, rfl, Nat.le_refl _, Lib.hid (Below.refl _ _), Lib.hid rfl⟩
  case round =>
    obtain ⟨k, q, hk, rfl, rfl, hqk, H, HQ⟩ := hrel
    have hAw := hA.bel H.out
    have hTw := hT0.bel H.out
    have hbw := hb.trans' H.out
    have hVw := hV.out.bel3 H.out
    clear c0 c1 c2 c3 c4 c5 c6 c7 c8 c9 c10 d0 d1
    obtain ⟨c0, c1, c2, c3, c4, c5, c6, c7, c8, c9, c10⟩ := hAw.cells
    by_cases hlt : k < k0
    · obtain ⟨b', o', e, _, e1, e2⟩ := hAw.terms k (by show k < 4; omega)
      injection e with e
      injection e with x1 x2
      subst x1 x2
      have hLk : L[k]? = some ((argsD a)[k]'(by show k < 4; omega)) := by
        rw [HL.out, ← HK0.out, List.getElem?_take, if_pos hlt]
        exact List.getElem?_eq_getElem _
      generalize (argsD a)[k]'(by show k < 4; omega) = u at e1 e2 hLk
      obtain ⟨uv, us⟩ := u
      simp only at e1 e2
      have hq0 : (0 : Int) ≤ k := by omega
      have hq1 : (k : Int) < a.n := by omega
      have hq4 : (k : Int) < 4 := by omega
      have hq := eql_term
      have e1 := cell_later (bel_drew' (Below.refl _ _)) e1
      have e2 := cell_later (bel_drew' (Below.refl _ _)) e2
      have hbr := bel_drew' H.out
      by_cases hqn : q < (namesD true L).length
      · have HNX := next_name L k ⟨uv, us⟩ hLk (by rw [← HQ.out]; exact hqn)
        obtain ⟨_, hLc⟩ := hVw
        rcases hLc with h0 | ⟨bb, oo, rfl, _, hLc⟩
        · omega
        have hx1 := hLc q (.string (namesD true L)[q]) (by simp [hqn])
        have hx1 := cell_later (bel_drew' (Below.refl _ _)) hx1
        have hgx : (namesD true L)[(namesD true (L.take k)).length]'(by rw [← HQ.out]; exact hqn) = (namesD true L)[q] := by congr 1; exact HQ.out.symm
        rw [hgx, ← HQ.out] at HNX
        have HNX := Lib.hid HNX
        clear hLc hgx
        generalize (namesD true L)[q] = x at hx1 HNX
        have hq5 : (0 : Int) ≤ q := by omega
        have hq6 : (q : Int) < (namesD true L).length := by omega
        rcases Bool.eq_false_or_eq_true (eqT ⟨uv, us⟩ ⟨true, x⟩) with hx | hx
        · have HN2 : RowKit.Hid ((namesD true (L.take (k + 1))).length = q + 1) := Lib.hid (by rw [HNX.out, if_pos hx])
          go_wp2
          go_region_held (fun w' => w'.cell? ⟨w.heap.size, 3 + k * 2, none⟩ = some (.bool uv) ∧ w'.cell? ⟨w.heap.size, 3 + k * 2 + 1, none⟩ = some (.string us) ∧ w'.cell? ⟨bb, oo + q, none⟩ = some (.string x)) (exact ⟨e1, e2, hx1⟩) ((go_at_call 12; refine (v_any _ _).mono ?_; rintro e w6 ⟨rfl, hg⟩; have e1 := cell_later hg e1; have e2 := cell_later hg e2; have hx1 := cell_later hg hx1; have hbr := hbr.trans' hg; clear hg))
          all_goals go_wp2
          all_goals go_roundw
          case rel => exact ⟨k + 1, q + 1, by omega, by go_num, by go_num, by omega, Lib.hid hbr, Lib.hid HN2.out.symm⟩
          case measure => simp [intOf]; omega
        · have HN2 : RowKit.Hid ((namesD true (L.take (k + 1))).length = q) := Lib.hid (by rw [HNX.out, if_neg (by simp [hx])]; rfl)
          go_wp2
          go_region_held (fun w' => w'.cell? ⟨w.heap.size, 3 + k * 2, none⟩ = some (.bool uv) ∧ w'.cell? ⟨w.heap.size, 3 + k * 2 + 1, none⟩ = some (.string us) ∧ w'.cell? ⟨bb, oo + q, none⟩ = some (.string x)) (exact ⟨e1, e2, hx1⟩) ((go_at_call 12; refine (v_any _ _).mono ?_; rintro e w6 ⟨rfl, hg⟩; have e1 := cell_later hg e1; have e2 := cell_later hg e2; have hx1 := cell_later hg hx1; have hbr := hbr.trans' hg; clear hg))
          all_goals go_wp2
          all_goals go_roundw
          case rel => exact ⟨k + 1, q, by omega, by go_num, by go_num, by omega, Lib.hid hbr, Lib.hid HN2.out.symm⟩
          case measure => simp [intOf]; omega
      · have HNX := last_name L k (by rw [← HQ.out]; exact hqn)
        rw [← HQ.out] at HNX
        have HN2 := Lib.hid HNX
        have hq6 : ¬ (q : Int) < (namesD true L).length := by omega
        have hq7 : decide ((q : Int) < (namesD true L).length) = false := decide_eq_false hq6
        clear HNX
        go_wp2
        go_quiet (fail)
        all_goals go_wp2
        all_goals go_roundw
        case rel => exact ⟨k + 1, q, by omega, by go_num, by go_num, by omega, Lib.hid (H.out.trans' (by first | exact Below.refl _ _ | exact bel_drewN _ _)), Lib.hid HN2.out.symm⟩
        case measure => simp [intOf]; omega
    · obtain rfl : k = k0 := by omega
      have hnl : ¬ (k : Int) < a.n := by omega
      have hqv : q = (namesD true L).length := by have h := HQ.out; rwa [← HLL.out, List.take_length] at h
      clear HQ
      have hqb : ((q : Int) != ((namesD true L).length : Int)) = false := by rw [hqv]; simp
      have hn : a.n = (k : Int) := hva.symm
      clear hqv hnl hva
      obtain ⟨d0, d1⟩ := hTw.cells
      by_cases h4 : k = 4
      · have hn4 : (a.n == 4) = true := by rw [hn, h4]; rfl
        have hn : RowKit.Hid (a.n = (k : Int)) := Lib.hid hn
        go_wp2
        go_ret
        exact ⟨rfl, hbw⟩
      have hn4 : ((k : Int) == 4) = false := beq_eq_false_iff_ne.2 (by omega)
      have hk4 : k < 4 := by omega
      have hkk : (k : Int) < 4 := by omega
      have hk00 : (0 : Int) ≤ k := by omega
      have HMF := Lib.hid (more_eq a k t hn)
      have SQ := more_sm SA k hk4 (t := t) (by omega)
      have hB0 : AtomAt (wr.alloc (.cells #[.string a.says, .string a.pred, .int .i64 (k : Int), .bool a.t0.v, .string a.t0.name, .bool a.t1.v, .string a.t1.name, .bool a.t2.v, .string a.t2.name, .bool a.t3.v, .string a.t3.name] 27)) wr.heap.size ⟨a.says, a.pred, (k : Int), a.t0, a.t1, a.t2, a.t3⟩ := heap_alloc_new _ _
      have hb := hbw.trans' (bel_alloc wr (.cells #[.string a.says, .string a.pred, .int .i64 (k : Int), .bool a.t0.v, .string a.t0.name, .bool a.t1.v, .string a.t1.name, .bool a.t2.v, .string a.t2.name, .bool a.t3.v, .string a.t3.name] 27))
      obtain ⟨q2, hq2⟩ : ∃ q2, q2 = moreD a k t := ⟨_, rfl⟩
      have HQ2 := Lib.hid hq2
      rw [← hq2] at SQ
      obtain ⟨yt, hyt⟩ : ∃ yt, textD q2 = yt := ⟨_, rfl⟩
      have HYT := Lib.hid hyt
      clear hq2
      have hne1 : w.heap.size + 1 ≠ wr.heap.size := Nat.ne_of_lt (Array.getElem?_eq_some_iff.1 hTw).1
      have hne0 : w.heap.size ≠ wr.heap.size := Nat.ne_of_lt hAw.lt
      have hA5 := hAw.bel (bel_alloc wr (.cells #[.string a.says, .string a.pred, .int .i64 (k : Int), .bool a.t0.v, .string a.t0.name, .bool a.t1.v, .string a.t1.name, .bool a.t2.v, .string a.t2.name, .bool a.t3.v, .string a.t3.name] 27))
      have hT5 := hTw.bel (bel_alloc wr (.cells #[.string a.says, .string a.pred, .int .i64 (k : Int), .bool a.t0.v, .string a.t0.name, .bool a.t1.v, .string a.t1.name, .bool a.t2.v, .string a.t2.name, .bool a.t3.v, .string a.t3.name] 27))
      obtain ⟨d5, d6⟩ := hT5.cells
      have HCK := Lib.hid HK0.out.symm
      by_cases hk0 : k = 0
      · have hkz : ((k : Int) == 0) = true := by rw [hk0]; rfl
        have hy : xf ++ ⟨#[40]⟩ ++ t.name ++ ⟨#[41]⟩ = yt := by rw [← hyt, HQ2.out, hk0, ← HXF.out]; exact more_zero a t
        clear hyt hk0
        go_wp2_with (first | ((with_reducible refine wpList_store_arg ?_ (.tmp 101) (.tmp 99) ?_ wr.heap.size k t ?_ ?_ hB0 hk4 ?_); rfl; rfl; rfl; rfl; intro w6 hB6 hb6 ho6; have hb := hb.trans (hb6.mono hbw.size); have hA6 := (ho6 _ hne0).trans hA5; have hT6 := (ho6 _ hne1).trans hT5; obtain ⟨_, _, e2, _⟩ := hB6.cells; rw [setArg_n] at e2; simp only at e2) | ((with_reducible refine wpList_store_n ?_ (.tmp 105) (.tmp 104) ?_ wr.heap.size ((k : Int) + 1) ?_ ?_ hB6 ?_); rfl; rfl; rfl; rfl; intro w7 hB7 hb7 ho7; have hb := hb.trans (hb7.mono hbw.size); have hA7 : AtomAt w7 w.heap.size a := (ho7 _ hne0).trans hA6; have hT7 : TermAt w7 (w.heap.size + 1) t := (ho7 _ hne1).trans hT6; have hB8 : AtomAt w7 wr.heap.size q2 := (by rw [HQ2.out, ← HMF.out]; exact hB7); obtain ⟨f0, f1, f2, f3, f4, f5, f6, f7, f8, f9, f10⟩ := hB8.cells; clear e2) | (go_at_call 18; refine (text_any q2 _ SQ).mono ?_; rw [HYT.out]; rintro e w8 ⟨rfl, hg⟩; have hA8 := hA7.bel hg; have hT8 := hT7.bel hg; obtain ⟨c0, c1, c2, c3, c4, c5, c6, c7, c8, c9, c10⟩ := hA8.cells; obtain ⟨d0, d1⟩ := hT8.cells; have hb := hb.trans (hg.mono hb.size); clear hg))
        go_ret
        exact ⟨rfl, hb⟩
      · have hkz : ((k : Int) == 0) = false := beq_eq_false_iff_ne.2 (by omega)
        obtain ⟨hp1, hp2⟩ := more_some a t k HCK.out (by omega) hk4
        rw [← HXS.out] at hp1 hp2
        obtain ⟨m, hxm⟩ : ∃ m, xs.size = m + 1 := ⟨xs.size - 1, by omega⟩
        have hy : xs.extract 0 m ++ ⟨#[44, 32]⟩ ++ t.name ++ ⟨#[41]⟩ = yt := by rw [← hyt, HQ2.out, ← hp2, hxm]; rfl
        have hxm1 : (xs.size : Int) - 1 = (m : Int) := by omega
        have hxm2 : (0 : Int) ≤ m := by omega
        have hxm3 : (m : Int) ≤ xs.size := by omega
        clear hyt hk0 hp1 hp2 hxm
        go_wp2_with (first | ((with_reducible refine wpList_store_arg ?_ (.tmp 101) (.tmp 99) ?_ wr.heap.size k t ?_ ?_ hB0 hk4 ?_); rfl; rfl; rfl; rfl; intro w6 hB6 hb6 ho6; have hb := hb.trans (hb6.mono hbw.size); have hA6 := (ho6 _ hne0).trans hA5; have hT6 := (ho6 _ hne1).trans hT5; obtain ⟨_, _, e2, _⟩ := hB6.cells; rw [setArg_n] at e2; simp only at e2) | ((with_reducible refine wpList_store_n ?_ (.tmp 105) (.tmp 104) ?_ wr.heap.size ((k : Int) + 1) ?_ ?_ hB6 ?_); rfl; rfl; rfl; rfl; intro w7 hB7 hb7 ho7; have hb := hb.trans (hb7.mono hbw.size); have hA7 : AtomAt w7 w.heap.size a := (ho7 _ hne0).trans hA6; have hT7 : TermAt w7 (w.heap.size + 1) t := (ho7 _ hne1).trans hT6; have hB8 : AtomAt w7 wr.heap.size q2 := (by rw [HQ2.out, ← HMF.out]; exact hB7); obtain ⟨f0, f1, f2, f3, f4, f5, f6, f7, f8, f9, f10⟩ := hB8.cells; clear e2) | (go_at_call 18; refine (text_any q2 _ SQ).mono ?_; rw [HYT.out]; rintro e w8 ⟨rfl, hg⟩; have hA8 := hA7.bel hg; have hT8 := hT7.bel hg; obtain ⟨c0, c1, c2, c3, c4, c5, c6, c7, c8, c9, c10⟩ := hA8.cells; obtain ⟨d0, d1⟩ := hT8.cells; have hb := hb.trans (hg.mono hb.size); clear hg))
        have hwr : IntKind.i64.wrap (m : Int) = (m : Int) := by simp [IntKind.wrap, IntKind.signed, IntKind.bits]; omega
        have d1 := cell_later (bel_drew' (Below.refl _ _)) d1
        have hb := Below.drew hb
        go_region_held (fun w' => w'.cell? ⟨w.heap.size + 1, 1, none⟩ = some (.string t.name)) (exact d1) (fail)
        all_goals go_wp2
        all_goals go_ret
        all_goals exact ⟨rfl, hb⟩
end Go.Proofs.YtobelhfhciafcaaDoor
