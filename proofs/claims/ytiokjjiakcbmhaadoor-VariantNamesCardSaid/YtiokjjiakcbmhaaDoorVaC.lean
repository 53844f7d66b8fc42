/-
  The canonical form, whether two atoms have the same, its text: the walks. Conditions: as each says.
-/
import Derived.Test.YtiokjjiakcbmhaaDoorVaB
import Derived.Test.YtiokjjiakcbmhaaDoorUgD
import Derived.Test.YtiokjjiakcbmhaaDoorTgD
namespace Go.Proofs.YtiokjjiakcbmhaaDoor
open Go.RowKit

theorem AtomAt.fr {F : List Nat} {w w' : World} {b : Nat} {a : AtomD} (h : AtomAt w b a) (hf : Fr F w w') (hn : b ∉ F) : AtomAt w' b a := hf.at hn h
theorem idxN_le (vs : List ByteArray) (s : ByteArray) : idxN vs s ≤ vs.length := List.findIdx_le_length
theorem canT_size {vs : List ByteArray} (hv : vs.length ≤ 4) {t : TermD} {m : Nat} (hm : 2 ≤ m) (h : t.name.size ≤ m) : (canT vs t).name.size ≤ m := by
  have := idxN_le vs t.name
  cases e : t.v with
  | false => unfold canT; rw [renF_cst _ t e]; exact h
  | true =>
    unfold canT
    rw [renF_var _ t e]
    show (vName (idxN vs t.name)).size ≤ m
    rw [vName_size _ (by omega)]; exact hm
theorem canon_name {a : AtomD} {m : Nat} (hm : 2 ≤ m) : (a.t0.name.size ≤ m → (canonD a).t0.name.size ≤ m) ∧ (a.t1.name.size ≤ m → (canonD a).t1.name.size ≤ m) ∧ (a.t2.name.size ≤ m → (canonD a).t2.name.size ≤ m) ∧ (a.t3.name.size ≤ m → (canonD a).t3.name.size ≤ m) := by
  have key : ∀ (p : Prop) [Decidable p] (t : TermD), t.name.size ≤ m → (if p then canT (varsA a) t else t).name.size ≤ m := fun p _ t h => by
    split
    · exact canT_size (vars4 a) hm h
    · exact h
  exact ⟨key _ _, key _ _, key _ _, key _ _⟩
theorem canon_sm {a : AtomD} (h : AtomSm a) : AtomSm (canonD a) := by
  obtain ⟨k0, k1, k2, k3⟩ := canon_name (a := a) (m := 1000) (by omega)
  exact ⟨h.says, h.pred, k0 h.t0, k1 h.t1, k2 h.t2, k3 h.t3⟩
theorem canon_aok {a : AtomD} (h : AtomOk a) : AtomOk (canonD a) := by
  obtain ⟨k0, k1, k2, k3⟩ := canon_name (a := a) (m := 9223372036854775807) (by omega)
  exact ⟨h.says, h.pred, h.n, k0 h.t0, k1 h.t1, k2 h.t2, k3 h.t3⟩
theorem setK_var {f : TermD → TermD} (a : AtomD) (k : Nat) (hk : k < 4) (t : TermD) (s : ByteArray) (ht : (argsD a)[k]? = some t) (hf : f t = ⟨t.v, s⟩) : setS (mapK f a k) k s = mapK f a (k + 1) := by
  obtain rfl | rfl | rfl | rfl : k = 0 ∨ k = 1 ∨ k = 2 ∨ k = 3 := by omega
  all_goals
    simp only [argsD, List.getElem?_cons_zero, List.getElem?_cons_succ, Option.some.injEq] at ht
    subst ht
    unfold mapK setS
    simp [hf]
theorem setK_cst {f : TermD → TermD} (a : AtomD) (k : Nat) (hk : k < 4) (t : TermD) (ht : (argsD a)[k]? = some t) (hf : f t = t) : mapK f a k = mapK f a (k + 1) := by
  obtain rfl | rfl | rfl | rfl : k = 0 ∨ k = 1 ∨ k = 2 ∨ k = 3 := by omega
  all_goals
    simp only [argsD, List.getElem?_cons_zero, List.getElem?_cons_succ, Option.some.injEq] at ht
    subst ht
    unfold mapK
    simp [hf]
theorem names_pre (v : Bool) : ∀ (ts : List TermD) (vs : List ByteArray), ∃ e, ts.foldl (stepN v) vs = vs ++ e
  | [], vs => ⟨[], (List.append_nil vs).symm⟩
  | t :: ts, vs => by
    obtain ⟨e, he⟩ : ∃ e, stepN v vs t = vs ++ e := by
      unfold stepN
      split
      · exact ⟨_, rfl⟩
      · exact ⟨[], (List.append_nil vs).symm⟩
    obtain ⟨f, hf⟩ := names_pre v ts (stepN v vs t)
    exact ⟨e ++ f, by rw [List.foldl_cons, hf, he, List.append_assoc]⟩
theorem names_front (v : Bool) (ts : List TermD) (k : Nat) : ∃ e, namesD v ts = namesD v (ts.take k) ++ e := by
  obtain ⟨e, he⟩ := names_pre v (ts.drop k) (namesD v (ts.take k))
  refine ⟨e, ?_⟩
  rw [← he]
  unfold namesD
  rw [← List.foldl_append, List.take_append_drop]
theorem nextV_step {vs : List ByteArray} {t : TermD} (h : t.v = true) : stepN true vs t = nextV vs t.name := by
  unfold stepN nextV
  rw [h]
  cases Lib.containsS vs t.name <;> rfl
theorem stepN_cst {vs : List ByteArray} {t : TermD} (h : t.v = false) : stepN true vs t = vs := by
  unfold stepN
  rw [h]; rfl
/-- the place of a name is known when it occurs -/
theorem idx_part {ts : List TermD} {k : Nat} {t : TermD} (ht : ts[k]? = some t) (hv : t.v = true) : idxN (namesD true (ts.take k)) t.name = idxN (namesD true ts) t.name := by
  cases hc : Lib.containsS (namesD true (ts.take k)) t.name with
  | true =>
    obtain ⟨e, he⟩ := names_front true ts k
    rw [he, idxN_app ((Lib.containsS_iff _ _).1 hc)]
  | false =>
    have hn : t.name ∉ namesD true (ts.take k) := fun hm => by rw [hasS_true hm] at hc; cases hc
    obtain ⟨e, he⟩ := names_front true ts (k + 1)
    rw [he, names_succ true ht, nextV_step hv]
    unfold nextV
    rw [hc, if_neg (by decide), idxN_app (by simp), idxN_miss hn, idxN_snoc hn]
theorem names4 (a : AtomD) (k : Nat) : (namesD true ((argsN a).take k)).length ≤ 4 := by
  have h1 := names_len true ((argsN a).take k)
  have h2 := argsN_len a
  have h3 := cntI_le a.n
  rw [List.length_take] at h1
  omega

set_option maxRecDepth 20000 in
set_option maxHeartbeats 4000000 in
theorem CanonW_any (a : AtomD) (w : World) (hs : ∀ t ∈ argsD a, t.name.size ≤ 9223372036854775807) :
    Calls Tryd.prog 13 #[.agg #[.string a.says, .string a.pred, .int .i64 a.n, .bool a.t0.v, .string a.t0.name, .bool a.t1.v, .string a.t1.name, .bool a.t2.v, .string a.t2.name, .bool a.t3.v, .string a.t3.name]] w fun e w' => (∃ q, RowKit.Hid (q = canonD a) ∧ e = .returned (.agg #[.string q.says, .string q.pred, .int .i64 q.n, .bool q.t0.v, .string q.t0.name, .bool q.t1.v, .string q.t1.name, .bool q.t2.v, .string q.t2.name, .bool q.t3.v, .string q.t3.name])) ∧ Bel w w' := by
  have HS := Lib.hid hs
  clear hs
  have hb1 := bel_alloc w (.cells #[.string a.says, .string a.pred, .int .i64 a.n, .bool a.t0.v, .string a.t0.name, .bool a.t1.v, .string a.t1.name, .bool a.t2.v, .string a.t2.name, .bool a.t3.v, .string a.t3.name] 27)
  have hA := AtomAt.new w a
  have hb2 := bel_alloc (w.alloc (.cells #[.string a.says, .string a.pred, .int .i64 a.n, .bool a.t0.v, .string a.t0.name, .bool a.t1.v, .string a.t1.name, .bool a.t2.v, .string a.t2.name, .bool a.t3.v, .string a.t3.name] 27)) (.cells #[.string zeroA.says, .string zeroA.pred, .int .i64 zeroA.n, .bool zeroA.t0.v, .string zeroA.t0.name, .bool zeroA.t1.v, .string zeroA.t1.name, .bool zeroA.t2.v, .string zeroA.t2.name, .bool zeroA.t3.v, .string zeroA.t3.name] 27)
  have hZ := AtomAt.new (w.alloc (.cells #[.string a.says, .string a.pred, .int .i64 a.n, .bool a.t0.v, .string a.t0.name, .bool a.t1.v, .string a.t1.name, .bool a.t2.v, .string a.t2.name, .bool a.t3.v, .string a.t3.name] 27)) zeroA
  rw [show (w.alloc (.cells #[.string a.says, .string a.pred, .int .i64 a.n, .bool a.t0.v, .string a.t0.name, .bool a.t1.v, .string a.t1.name, .bool a.t2.v, .string a.t2.name, .bool a.t3.v, .string a.t3.name] 27)).heap.size = w.heap.size + 1 by simp] at hZ
  have hb3 := bel_alloc ((w.alloc (.cells #[.string a.says, .string a.pred, .int .i64 a.n, .bool a.t0.v, .string a.t0.name, .bool a.t1.v, .string a.t1.name, .bool a.t2.v, .string a.t2.name, .bool a.t3.v, .string a.t3.name] 27)).alloc (.cells #[.string zeroA.says, .string zeroA.pred, .int .i64 zeroA.n, .bool zeroA.t0.v, .string zeroA.t0.name, .bool zeroA.t1.v, .string zeroA.t1.name, .bool zeroA.t2.v, .string zeroA.t2.name, .bool zeroA.t3.v, .string zeroA.t3.name] 27)) (.map #[] 0)
  have hM := NumM.made ((w.alloc (.cells #[.string a.says, .string a.pred, .int .i64 a.n, .bool a.t0.v, .string a.t0.name, .bool a.t1.v, .string a.t1.name, .bool a.t2.v, .string a.t2.name, .bool a.t3.v, .string a.t3.name] 27)).alloc (.cells #[.string zeroA.says, .string zeroA.pred, .int .i64 zeroA.n, .bool zeroA.t0.v, .string zeroA.t0.name, .bool zeroA.t1.v, .string zeroA.t1.name, .bool zeroA.t2.v, .string zeroA.t2.name, .bool zeroA.t3.v, .string zeroA.t3.name] 27))
  rw [show ((w.alloc (.cells #[.string a.says, .string a.pred, .int .i64 a.n, .bool a.t0.v, .string a.t0.name, .bool a.t1.v, .string a.t1.name, .bool a.t2.v, .string a.t2.name, .bool a.t3.v, .string a.t3.name] 27)).alloc (.cells #[.string zeroA.says, .string zeroA.pred, .int .i64 zeroA.n, .bool zeroA.t0.v, .string zeroA.t0.name, .bool zeroA.t1.v, .string zeroA.t1.name, .bool zeroA.t2.v, .string zeroA.t2.name, .bool zeroA.t3.v, .string zeroA.t3.name] 27)).heap.size = w.heap.size + 1 + 1 by simp] at hM
  replace hA := (hA.bel hb2).bel hb3
  replace hZ := hZ.bel hb3
  have hmm := @run_makeMap Tryd.prog
  have hb := (hb1.trans' hb2).trans' hb3
  obtain ⟨d0, d1, d2, _⟩ := hA.cells
  simp only [zeroA, zeroT] at hb hA d0 d1 d2 hM hZ
  have hc4 := cntI_le a.n
  clear hb1 hb2 hb3
  have hmin := min_le a.n
  generalize hcc : cntI a.n = c at hc4 hmin
  have HC := Lib.hid hcc
  clear hcc
  obtain ⟨mn, hmn⟩ : ∃ mn, mn = min a.n 4 := ⟨_, rfl⟩
  rw [← hmn] at hmin
  have HMN := Lib.hid hmn
  have HA0 := Lib.hid hA
  have HZ0 := Lib.hid hZ
  have HB0 := Lib.hid hb
  have HM0 := Lib.hid hM
  clear hA hZ hb hM
  go_enter Tryd.func13, Tryd.ntmps13
  go_wp2
  simp only [← hmn]
  clear hmn d0 d1 d2 hmm
  go_loopw [9] (fun i0 wr => ∃ k : Nat, k ≤ c ∧ i0 = .int .i64 k ∧ RowKit.Hid (Bel w wr ∧ AtomAt wr w.heap.size (mapK (canT (varsA a)) a k) ∧ AtomAt wr (w.heap.size + 1) zeroA ∧ NumM wr (w.heap.size + 1 + 1) (namesD true ((argsN a).take k)))) (fun i0 _ => c - (intOf i0).toNat)
  case atStart => exact ⟨0, Nat.zero_le _, rfl, Lib.hid ⟨HB0.out, HA0.out, HZ0.out, HM0.out⟩⟩
  case round =>
    obtain ⟨k, hk, rfl, H⟩ := hrel
    clear HB0 HA0 HZ0 HM0
    have hA := H.out.2.1
    have hb := H.out.1
    have hZ := H.out.2.2.1
    have hN := H.out.2.2.2
    clear H
    by_cases hlt : k < c
    · have hk4 : k < 4 := by omega
      have hq : (0 : Int) ≤ k := by omega
      have hq1 : (k : Int) < 4 := by omega
      have hq2 : (k : Int) < mn := (hmin k).2 hlt
      obtain ⟨t, ht⟩ := args_some a k hk4
      have ht2 := mapK_arg (canT (varsA a)) a k hk4 t ht
      obtain ⟨c1, c2⟩ := terms_at hA ht2
      have hts : t.name.size ≤ 9223372036854775807 := HS.out t (List.mem_of_getElem? ht)
      have HT := Lib.hid ht
      have HTN : RowKit.Hid ((argsN a)[k]? = some t) := Lib.hid (by unfold argsN; rw [List.getElem?_take, if_pos (by rw [HC.out]; exact hlt)]; exact ht)
      clear ht ht2
      cases hv : t.v
      · have HN := Lib.hid (setK_cst (f := canT (varsA a)) a k hk4 t HT.out (renF_cst _ t hv))
        have HV : RowKit.Hid (namesD true ((argsN a).take (k + 1)) = namesD true ((argsN a).take k)) := Lib.hid (by rw [names_succ true HTN.out, stepN_cst hv])
        rw [hv] at c1
        clear hv c2
        go_wp2
        go_roundw
        case rel => exact ⟨k + 1, by omega, by go_num, Lib.hid ⟨hb, by rw [← HN.out]; exact hA, hZ, by rw [HV.out]; exact hN⟩⟩
        case measure => simp [intOf]; omega
      · have HI := idx_part HTN.out hv
        have hI4 : idxN (varsA a) t.name < 4 := idx_lt (vars_mem (List.mem_of_getElem? HTN.out) hv)
        have HNX := Lib.hid (fun s (hs : s = vName (idxN (varsA a) t.name)) => setK_var (f := canT (varsA a)) a k hk4 t s HT.out (by rw [hs, hv]; exact renF_var _ t hv))
        have HV : RowKit.Hid (namesD true ((argsN a).take (k + 1)) = nextV (namesD true ((argsN a).take k)) t.name) := Lib.hid (by rw [names_succ true HTN.out, nextV_step hv])
        have HII : RowKit.Hid (idxN (namesD true ((argsN a).take k)) t.name = idxN (varsA a) t.name) := Lib.hid HI
        rw [hv] at c1
        clear hv HI
        obtain ⟨j, hj⟩ : ∃ j, j = idxN (varsA a) t.name := ⟨_, rfl⟩
        rw [← hj] at hI4 HNX HII
        clear hj
        have hF := Lib.hid (And.intro hb hZ)
        clear hb hZ
        have hsz2 := hN.lt
        go_wp2_with (first | (go_at_call 33; refine (number_any _ _ _ _ hN (by omega)).mono ?_; rw [HII.out]; rintro e w1 ⟨rfl, hN1, hf1⟩; have hA1 := AtomAt.fr hA hf1 (by intro hm; have := List.mem_singleton.1 hm; omega); have hb1 : Bel w w1 := hF.out.1.trans (hf1.below (B := w.heap.size) (by intro k hk; have := List.mem_singleton.1 hk; omega) (by omega)); have hZ1 := AtomAt.fr hF.out.2 hf1 (by intro hm; have := List.mem_singleton.1 hm; omega); clear hA hN hf1 hF c1 c2) | (go_at_call 32; refine ((itoa_small _ j (by omega)) _ (Below.refl _ _)).mono ?_; rintro e w2 ⟨⟨s, HSS, rfl⟩, hg⟩; have hsl : s.size ≤ 2 := (by rw [HSS.out, Lib.decDigits_one (by omega)]; exact (by decide : 1 ≤ 2)); have hA2 := AtomAt.bel hA1 hg; have hZ2 := AtomAt.bel hZ1 hg; have hb2 := hb1.trans' hg; have hN2 := hN1.fr (Fr.of_below (F := []) hg) (by simp); clear hg) | ((with_reducible refine wpList_store_s ?_ (.tmp 29) (.tmp 26) ?_ w.heap.size k (⟨#[86]⟩ ++ s) ?_ ?_ hA2 hk4 ?_); rfl; rfl; rfl; rfl; intro w3 hA3 hb3 ho3))
        go_roundw
        case rel =>
          refine ⟨k + 1, by omega, by go_num, Lib.hid ⟨hb2.trans hb3, ?_, (ho3 _ (by omega)).trans hZ2, ?_⟩⟩
          · rw [← HNX.out (⟨#[86]⟩ ++ s) (by rw [HSS.out]; rfl)]; exact hA3
          · rw [HV.out]
            exact hN2.fr (F := [w.heap.size]) ⟨hb3.os, hb3.tape, hb3.output, hb3.size, fun i hi hn => ho3 i (by simpa using hn)⟩ (by intro hm; have := List.mem_singleton.1 hm; omega)
        case measure => simp [intOf]; omega
    · obtain rfl : k = c := by omega
      have hq2 : ¬ (k : Int) < mn := fun h => hlt ((hmin k).1 h)
      have HQ : RowKit.Hid (mapK (canT (varsA a)) a k = canonD a) := Lib.hid (by rw [← HC.out]; rfl)
      obtain ⟨q, hq⟩ : ∃ q, q = mapK (canT (varsA a)) a k := ⟨_, rfl⟩
      rw [← hq] at hA
      have HQ2 := Lib.hid (hq.trans HQ.out)
      clear hq HQ
      obtain ⟨f0, f1, f2, f3, f4, f5, f6, f7, f8, f9, f10⟩ := hA.cells
      go_wp2_with ((with_reducible refine wpList_store_atom ?_ (.tmp 2) (.tmp 31) ?_ (w.heap.size + 1) q ?_ ?_ hZ ?_); rfl; rfl; rfl; rfl; intro w3 hR hb3 _; have hb := hb.trans (hb3.mono (Nat.le_succ _)); clear hb3)
      try simp only [Exit.inBlock, Exit.then]
      refine bodyPost_ret (results_atom rfl _ _ _ _ rfl hR) rfl ?_
      exact ⟨⟨_, HQ2, rfl⟩, hb⟩

set_option maxRecDepth 20000 in
set_option maxHeartbeats 4000000 in
theorem SameW_any (a b : AtomD) (w : World) (ha : ∀ t ∈ argsD a, t.name.size ≤ 9223372036854775807) (hb : ∀ t ∈ argsD b, t.name.size ≤ 9223372036854775807) :
    Calls Tryd.prog 11 #[.agg #[.string a.says, .string a.pred, .int .i64 a.n, .bool a.t0.v, .string a.t0.name, .bool a.t1.v, .string a.t1.name, .bool a.t2.v, .string a.t2.name, .bool a.t3.v, .string a.t3.name], .agg #[.string b.says, .string b.pred, .int .i64 b.n, .bool b.t0.v, .string b.t0.name, .bool b.t1.v, .string b.t1.name, .bool b.t2.v, .string b.t2.name, .bool b.t3.v, .string b.t3.name]] w fun e w' => e = .returned (.bool (eqA (canonD a) (canonD b))) ∧ Bel w w' := by
  have HSA := Lib.hid ha
  have HSB := Lib.hid hb
  clear ha hb
  have hb1 := bel_alloc w (.cells #[.string a.says, .string a.pred, .int .i64 a.n, .bool a.t0.v, .string a.t0.name, .bool a.t1.v, .string a.t1.name, .bool a.t2.v, .string a.t2.name, .bool a.t3.v, .string a.t3.name] 27)
  have hP := AtomAt.new w a
  have hb2 := bel_alloc (w.alloc (.cells #[.string a.says, .string a.pred, .int .i64 a.n, .bool a.t0.v, .string a.t0.name, .bool a.t1.v, .string a.t1.name, .bool a.t2.v, .string a.t2.name, .bool a.t3.v, .string a.t3.name] 27)) (.cells #[.string b.says, .string b.pred, .int .i64 b.n, .bool b.t0.v, .string b.t0.name, .bool b.t1.v, .string b.t1.name, .bool b.t2.v, .string b.t2.name, .bool b.t3.v, .string b.t3.name] 27)
  have hQ := AtomAt.new (w.alloc (.cells #[.string a.says, .string a.pred, .int .i64 a.n, .bool a.t0.v, .string a.t0.name, .bool a.t1.v, .string a.t1.name, .bool a.t2.v, .string a.t2.name, .bool a.t3.v, .string a.t3.name] 27)) b
  rw [show (w.alloc (.cells #[.string a.says, .string a.pred, .int .i64 a.n, .bool a.t0.v, .string a.t0.name, .bool a.t1.v, .string a.t1.name, .bool a.t2.v, .string a.t2.name, .bool a.t3.v, .string a.t3.name] 27)).heap.size = w.heap.size + 1 by simp] at hQ
  have hP := (hP.bel hb2).drew
  have hQ := hQ.drew
  have hd := bel_drew' (hb1.trans' hb2)
  clear hb1 hb2
  have hqe := eql_atom
  go_enter Tryd.func11, Tryd.ntmps11
  go_wp2
  go_region_held3 (fun w' => (w'.cell? ⟨w.heap.size, 0, none⟩ = some (.string a.says) ∧ w'.cell? ⟨w.heap.size, 1, none⟩ = some (.string a.pred) ∧ w'.cell? ⟨w.heap.size, 2, none⟩ = some (.int .i64 a.n) ∧ w'.cell? ⟨w.heap.size, 3, none⟩ = some (.bool a.t0.v) ∧ w'.cell? ⟨w.heap.size, 4, none⟩ = some (.string a.t0.name) ∧ w'.cell? ⟨w.heap.size, 5, none⟩ = some (.bool a.t1.v) ∧ w'.cell? ⟨w.heap.size, 6, none⟩ = some (.string a.t1.name) ∧ w'.cell? ⟨w.heap.size, 7, none⟩ = some (.bool a.t2.v) ∧ w'.cell? ⟨w.heap.size, 8, none⟩ = some (.string a.t2.name) ∧ w'.cell? ⟨w.heap.size, 9, none⟩ = some (.bool a.t3.v) ∧ w'.cell? ⟨w.heap.size, 10, none⟩ = some (.string a.t3.name)) ∧ (w'.cell? ⟨w.heap.size + 1, 0, none⟩ = some (.string b.says) ∧ w'.cell? ⟨w.heap.size + 1, 1, none⟩ = some (.string b.pred) ∧ w'.cell? ⟨w.heap.size + 1, 2, none⟩ = some (.int .i64 b.n) ∧ w'.cell? ⟨w.heap.size + 1, 3, none⟩ = some (.bool b.t0.v) ∧ w'.cell? ⟨w.heap.size + 1, 4, none⟩ = some (.string b.t0.name) ∧ w'.cell? ⟨w.heap.size + 1, 5, none⟩ = some (.bool b.t1.v) ∧ w'.cell? ⟨w.heap.size + 1, 6, none⟩ = some (.string b.t1.name) ∧ w'.cell? ⟨w.heap.size + 1, 7, none⟩ = some (.bool b.t2.v) ∧ w'.cell? ⟨w.heap.size + 1, 8, none⟩ = some (.string b.t2.name) ∧ w'.cell? ⟨w.heap.size + 1, 9, none⟩ = some (.bool b.t3.v) ∧ w'.cell? ⟨w.heap.size + 1, 10, none⟩ = some (.string b.t3.name))) (first | exact ⟨hP.cells, hQ.cells⟩ | go_keep | trivial)
    (first | (go_at_call 13; refine (CanonW_any _ _ (by first | exact HSA.out | exact HSB.out)).mono ?_; rintro e w3 ⟨⟨q, HQ, rfl⟩, hg⟩; obtain rfl := HQ.out.symm; have hP := hP.bel hg; have hQ := hQ.bel hg; have hd := hd.trans' hg; clear hg))
  all_goals go_wp2
  all_goals go_ret
  all_goals exact ⟨rfl, hd⟩
set_option maxRecDepth 20000 in
set_option maxHeartbeats 4000000 in
theorem KeyW_any (a : AtomD) (w : World) (hs : ∀ t ∈ argsD a, t.name.size ≤ 9223372036854775807) (h : AtomSm (canonD a)) :
    Calls Tryd.prog 12 #[.agg #[.string a.says, .string a.pred, .int .i64 a.n, .bool a.t0.v, .string a.t0.name, .bool a.t1.v, .string a.t1.name, .bool a.t2.v, .string a.t2.name, .bool a.t3.v, .string a.t3.name]] w fun e w' => e = .returned (.string (textD (canonD a))) ∧ Bel w w' := by
  have HSA := Lib.hid hs
  have HSM := Lib.hid h
  clear hs h
  have hb := bel_alloc w (.cells #[.string a.says, .string a.pred, .int .i64 a.n, .bool a.t0.v, .string a.t0.name, .bool a.t1.v, .string a.t1.name, .bool a.t2.v, .string a.t2.name, .bool a.t3.v, .string a.t3.name] 27)
  have hP := AtomAt.new w a
  obtain ⟨c0, c1, c2, c3, c4, c5, c6, c7, c8, c9, c10⟩ := hP.cells
  go_enter Tryd.func12, Tryd.ntmps12
  go_wp2_with (first | (go_at_call 13; refine (CanonW_any _ _ HSA.out).mono ?_; rintro e w3 ⟨⟨q, HQ, rfl⟩, hg⟩; obtain rfl := HQ.out.symm; have hb1 := hb.trans' hg; clear hg) | (go_at_call 31; refine (text_any _ _ HSM.out).mono ?_; rintro e w4 ⟨rfl, hg⟩; have hb2 := hb1.trans' hg; clear hg))
  go_ret
  exact ⟨rfl, hb2⟩
theorem big_names {a : AtomD} (h : ∀ t ∈ argsD a, t.name.size ≤ 1000) : ∀ t ∈ argsD a, t.name.size ≤ 9223372036854775807 := fun t ht => Nat.le_trans (h t ht) (by decide)
theorem Canon_any (a : AtomD) (w : World) (hs : ∀ t ∈ argsD a, t.name.size ≤ 1000) : Calls Tryd.prog 13 #[.agg #[.string a.says, .string a.pred, .int .i64 a.n, .bool a.t0.v, .string a.t0.name, .bool a.t1.v, .string a.t1.name, .bool a.t2.v, .string a.t2.name, .bool a.t3.v, .string a.t3.name]] w fun e w' => (∃ q, RowKit.Hid (q = canonD a) ∧ e = .returned (.agg #[.string q.says, .string q.pred, .int .i64 q.n, .bool q.t0.v, .string q.t0.name, .bool q.t1.v, .string q.t1.name, .bool q.t2.v, .string q.t2.name, .bool q.t3.v, .string q.t3.name])) ∧ Bel w w' := CanonW_any a w (big_names hs)
theorem SameV_any (a b : AtomD) (w : World) (ha : ∀ t ∈ argsD a, t.name.size ≤ 1000) (hb : ∀ t ∈ argsD b, t.name.size ≤ 1000) : Calls Tryd.prog 11 #[.agg #[.string a.says, .string a.pred, .int .i64 a.n, .bool a.t0.v, .string a.t0.name, .bool a.t1.v, .string a.t1.name, .bool a.t2.v, .string a.t2.name, .bool a.t3.v, .string a.t3.name], .agg #[.string b.says, .string b.pred, .int .i64 b.n, .bool b.t0.v, .string b.t0.name, .bool b.t1.v, .string b.t1.name, .bool b.t2.v, .string b.t2.name, .bool b.t3.v, .string b.t3.name]] w fun e w' => e = .returned (.bool (eqA (canonD a) (canonD b))) ∧ Bel w w' := SameW_any a b w (big_names ha) (big_names hb)
theorem KeyV_any (a : AtomD) (w : World) (h : AtomSm a) : Calls Tryd.prog 12 #[.agg #[.string a.says, .string a.pred, .int .i64 a.n, .bool a.t0.v, .string a.t0.name, .bool a.t1.v, .string a.t1.name, .bool a.t2.v, .string a.t2.name, .bool a.t3.v, .string a.t3.name]] w fun e w' => e = .returned (.string (textD (canonD a))) ∧ Bel w w' := KeyW_any a w (big_names h.args) (canon_sm h)
end Go.Proofs.YtiokjjiakcbmhaaDoor
