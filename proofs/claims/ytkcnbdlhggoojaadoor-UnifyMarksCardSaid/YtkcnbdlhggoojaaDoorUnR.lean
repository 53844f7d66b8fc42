/-
  Marking the variables of an atom; what two atoms meet in: the walks. Conditions: as each says.
-/
import Derived.Test.YtkcnbdlhggoojaaDoorUnC
import Derived.Test.YtkcnbdlhggoojaaDoorUnF
import Derived.Test.YtkcnbdlhggoojaaDoorShelf
namespace Go.Proofs.YtkcnbdlhggoojaaDoor
open Go.RowKit

theorem bel_grow (w : World) (q : Nat) (os : Array Obj) : Bel w (Sort.grow (w.drewN q) os) :=
  ⟨rfl, rfl, rfl, by first | (simp [Sort.grow]; done) | (simp [Sort.grow]; omega), fun i hi => by
    show ((w.drewN q).heap ++ os)[i]? = _
    rw [Array.getElem?_append_left (by show i < w.heap.size; omega)]
    rfl⟩
/-- the digits of a mark are made, from the world W on -/
def ItoaAt (W : World) (i : Nat) : Prop := ∀ w', Bel W w' → Calls Tryd.prog 28 #[.int .i64 i] w' fun e w'' => (∃ s : ByteArray, RowKit.Hid (s = ⟨(Lib.decDigits i).toArray⟩) ∧ e = .returned (.string s)) ∧ Bel w' w''
theorem itoa_small (W : World) (i : Nat) (hi : i < 100) : ItoaAt W i := fun w' _ => (Tryd.strconv_Itoa_small i hi w').mono (by rintro e w'' ⟨rfl, rfl⟩; exact ⟨⟨_, Lib.hid rfl, rfl⟩, Below.refl _ _⟩)
theorem ItoaAt.bel {W W' : World} {i : Nat} (h : ItoaAt W i) (hg : Bel W W') : ItoaAt W' i := fun w' hw => h w' (hg.trans' hw)

def setS (a : AtomD) (i : Nat) (s : ByteArray) : AtomD := match i with
  | 0 => ⟨a.says, a.pred, a.n, ⟨a.t0.v, s⟩, a.t1, a.t2, a.t3⟩
  | 1 => ⟨a.says, a.pred, a.n, a.t0, ⟨a.t1.v, s⟩, a.t2, a.t3⟩
  | 2 => ⟨a.says, a.pred, a.n, a.t0, a.t1, ⟨a.t2.v, s⟩, a.t3⟩
  | _ => ⟨a.says, a.pred, a.n, a.t0, a.t1, a.t2, ⟨a.t3.v, s⟩⟩
theorem store_s {w : World} {g : Nat} {a0 : AtomD} (h : AtomAt w g a0) (i : Nat) (hi : i < 4) (v : ByteArray) : ∃ w3, (storeVar 9 ⟨g, 3 + i * 2 + 1, none⟩ (.string v)).run Tryd.prog w = .ok () w3 ∧ AtomAt w3 g (setS a0 i v) ∧ Below g w w3 ∧ ∀ k, k ≠ g → w3.heap[k]? = w.heap[k]? := by
  have hst := run_storeCells_at Tryd.prog g (3 + i * 2 + 1) 30 [.string v] 0 _ w h (by simp; omega) (by intro u hu; simp at hu; subst hu; rfl)
  have hi' : (Tryd.prog.info? 9).map (·.size) = some 1 := by kernel_rfl
  cases hq : Tryd.prog.info? 9 with
  | none => rw [hq] at hi'; cases hi'
  | some i0 =>
    have hz1 : i0.size = 1 := by rw [hq] at hi'; simpa using hi'
    have e : (storeVar 9 ⟨g, 3 + i * 2 + 1, none⟩ (.string v)).run Tryd.prog w = (storeCells ⟨g, 3 + i * 2 + 1, none⟩ [.string v] 0).run Tryd.prog w := by
      simp [storeVar, sizeOf, typeInfo, hq, Value.cells, hz1]
    refine ⟨_, e.trans hst, ?_, ⟨rfl, rfl, rfl, by simp [World.setRow], fun k hk => setRow_other w g k _ (by omega)⟩, fun k hk => setRow_other w g k _ hk⟩
    unfold AtomAt
    rw [setRow_heap w g _ _ 30 _ h]
    obtain rfl | rfl | rfl | rfl : i = 0 ∨ i = 1 ∨ i = 2 ∨ i = 3 := by omega
    all_goals rfl
theorem wpList_store_s {ops : Array Oper} {rest : List Oper} {o : Oper} {a : Act} {w : World} {Q : Exit → Act → World → Prop} (hgd : o.guard = none) (x y : Operand) (ho : o.op = .store 9 x y) (g i : Nat) (v : ByteArray)
    (hx : a.eval x = .pointer (some ⟨g, 3 + i * 2 + 1, none⟩)) (hy : a.eval y = .string v) {a0 : AtomD} (hg : AtomAt w g a0) (hi : i < 4)
    (h : ∀ w', AtomAt w' g (setS a0 i v) → Below g w w' → (∀ k, k ≠ g → w'.heap[k]? = w.heap[k]?) → wpList Tryd.prog ops Q rest (a.put o.dst undef) w') : wpList Tryd.prog ops Q (o :: rest) a w := by
  obtain ⟨w3, hst, h1, h2, h3⟩ := store_s hg i hi v
  refine wpList_plain hgd fun _ hK => ?_
  unfold Oper.wp execOp
  simp only [ho, hx, hy, Instr.storeAt, Instr.sureAddr, Sem.run_bind, Sem.run_pure, Result.andThen_ok, hst]
  exact hK _ _ (h w3 h1 h2 h3)
def mapK (f : TermD → TermD) (a : AtomD) (k : Nat) : AtomD :=
  ⟨a.says, a.pred, a.n, if 0 < k then f a.t0 else a.t0, if 1 < k then f a.t1 else a.t1, if 2 < k then f a.t2 else a.t2, if 3 < k then f a.t3 else a.t3⟩
theorem mapK_arg (f : TermD → TermD) (a : AtomD) (k : Nat) (hk : k < 4) (t : TermD) (ht : (argsD a)[k]? = some t) : (argsD (mapK f a k))[k]? = some t := by
  obtain rfl | rfl | rfl | rfl : k = 0 ∨ k = 1 ∨ k = 2 ∨ k = 3 := by omega
  all_goals
    simp only [argsD, List.getElem?_cons_zero, List.getElem?_cons_succ, Option.some.injEq] at ht
    subst ht
    rfl
theorem mapK_var (a : AtomD) (i k : Nat) (hk : k < 4) (t : TermD) (ht : (argsD a)[k]? = some t) (hv : t.v = true) : setS (mapK (renT i) a k) k (t.name ++ tagD i) = mapK (renT i) a (k + 1) := by
  have e : renT i t = ⟨t.v, t.name ++ tagD i⟩ := by unfold renT; rw [if_pos hv, hv]
  obtain rfl | rfl | rfl | rfl : k = 0 ∨ k = 1 ∨ k = 2 ∨ k = 3 := by omega
  all_goals
    simp only [argsD, List.getElem?_cons_zero, List.getElem?_cons_succ, Option.some.injEq] at ht
    subst ht
    unfold mapK setS
    simp [e]
theorem mapK_cst (a : AtomD) (i k : Nat) (hk : k < 4) (t : TermD) (ht : (argsD a)[k]? = some t) (hv : t.v = false) : mapK (renT i) a k = mapK (renT i) a (k + 1) := by
  have e : renT i t = t := by unfold renT; rw [if_neg (by rw [hv]; decide)]
  obtain rfl | rfl | rfl | rfl : k = 0 ∨ k = 1 ∨ k = 2 ∨ k = 3 := by omega
  all_goals
    simp only [argsD, List.getElem?_cons_zero, List.getElem?_cons_succ, Option.some.injEq] at ht
    subst ht
    unfold mapK
    simp [e]
theorem tag_size (i : Nat) (hi : i < 10000000000) : (tagD i).size ≤ 11 := by
  have h1 := digits_len 9 i (by omega)
  have h2 : (tagD i).data.toList.length = (tagD i).size := Array.length_toList
  rw [tag_list] at h2
  simp at h2
  omega

set_option maxRecDepth 20000 in
set_option maxHeartbeats 4000000 in
theorem RenameNo_any (a : AtomD) (w : World) (i : Int) (hi : i < 0) :
    Calls Tryd.prog 10 #[.agg #[.string a.says, .string a.pred, .int .i64 a.n, .bool a.t0.v, .string a.t0.name, .bool a.t1.v, .string a.t1.name, .bool a.t2.v, .string a.t2.name, .bool a.t3.v, .string a.t3.name], .int .i64 i] w fun e w' => (∃ q, RowKit.Hid (q = a) ∧ e = .returned (.agg #[.string q.says, .string q.pred, .int .i64 q.n, .bool q.t0.v, .string q.t0.name, .bool q.t1.v, .string q.t1.name, .bool q.t2.v, .string q.t2.name, .bool q.t3.v, .string q.t3.name])) ∧ Bel w w' := by
  have g1 := bel_alloc w (.cells #[.string a.says, .string a.pred, .int .i64 a.n, .bool a.t0.v, .string a.t0.name, .bool a.t1.v, .string a.t1.name, .bool a.t2.v, .string a.t2.name, .bool a.t3.v, .string a.t3.name] 30)
  have hA := AtomAt.new w a
  have g2 := bel_alloc (w.alloc (.cells #[.string a.says, .string a.pred, .int .i64 a.n, .bool a.t0.v, .string a.t0.name, .bool a.t1.v, .string a.t1.name, .bool a.t2.v, .string a.t2.name, .bool a.t3.v, .string a.t3.name] 30)) (.cells #[.string zeroA.says, .string zeroA.pred, .int .i64 zeroA.n, .bool zeroA.t0.v, .string zeroA.t0.name, .bool zeroA.t1.v, .string zeroA.t1.name, .bool zeroA.t2.v, .string zeroA.t2.name, .bool zeroA.t3.v, .string zeroA.t3.name] 30)
  have hZ := AtomAt.new (w.alloc (.cells #[.string a.says, .string a.pred, .int .i64 a.n, .bool a.t0.v, .string a.t0.name, .bool a.t1.v, .string a.t1.name, .bool a.t2.v, .string a.t2.name, .bool a.t3.v, .string a.t3.name] 30)) zeroA
  rw [show (w.alloc (.cells #[.string a.says, .string a.pred, .int .i64 a.n, .bool a.t0.v, .string a.t0.name, .bool a.t1.v, .string a.t1.name, .bool a.t2.v, .string a.t2.name, .bool a.t3.v, .string a.t3.name] 30)).heap.size = w.heap.size + 1 by simp] at hZ
  have hA := hA.bel g2
  have hb := g1.trans' g2
  obtain ⟨f0, f1, f2, f3, f4, f5, f6, f7, f8, f9, f10⟩ := hA.cells
  simp only [zeroA, zeroT] at hb hA f0 f1 f2 f3 f4 f5 f6 f7 f8 f9 f10
  clear g1 g2 hA
  have hR := AtomAt.new (w.alloc (.cells #[.string a.says, .string a.pred, .int .i64 a.n, .bool a.t0.v, .string a.t0.name, .bool a.t1.v, .string a.t1.name, .bool a.t2.v, .string a.t2.name, .bool a.t3.v, .string a.t3.name] 30)) a
  rw [show (w.alloc (.cells #[.string a.says, .string a.pred, .int .i64 a.n, .bool a.t0.v, .string a.t0.name, .bool a.t1.v, .string a.t1.name, .bool a.t2.v, .string a.t2.name, .bool a.t3.v, .string a.t3.name] 30)).heap.size = w.heap.size + 1 by simp] at hR
  have hb := (bel_alloc w (.cells #[.string a.says, .string a.pred, .int .i64 a.n, .bool a.t0.v, .string a.t0.name, .bool a.t1.v, .string a.t1.name, .bool a.t2.v, .string a.t2.name, .bool a.t3.v, .string a.t3.name] 30)).trans' (bel_alloc _ (.cells #[.string a.says, .string a.pred, .int .i64 a.n, .bool a.t0.v, .string a.t0.name, .bool a.t1.v, .string a.t1.name, .bool a.t2.v, .string a.t2.name, .bool a.t3.v, .string a.t3.name] 30))
  go_enter Tryd.func10, Tryd.ntmps10
  go_wp2
  try simp only [Exit.inBlock, Exit.then]
  refine bodyPost_ret (results_atom rfl _ _ _ _ rfl hR) rfl ?_
  exact ⟨⟨_, Lib.hid rfl, rfl⟩, hb⟩
set_option maxRecDepth 20000 in
set_option maxHeartbeats 4000000 in
theorem Rename_any (a : AtomD) (i : Nat) (w : World) (hi : i < 10000000000) (hI : ItoaAt w i) (hs : ∀ t ∈ argsD a, t.name.size ≤ 1000) :
    Calls Tryd.prog 10 #[.agg #[.string a.says, .string a.pred, .int .i64 a.n, .bool a.t0.v, .string a.t0.name, .bool a.t1.v, .string a.t1.name, .bool a.t2.v, .string a.t2.name, .bool a.t3.v, .string a.t3.name], .int .i64 i] w fun e w' => (∃ q, RowKit.Hid (q = renD a i) ∧ e = .returned (.agg #[.string q.says, .string q.pred, .int .i64 q.n, .bool q.t0.v, .string q.t0.name, .bool q.t1.v, .string q.t1.name, .bool q.t2.v, .string q.t2.name, .bool q.t3.v, .string q.t3.name])) ∧ Bel w w' := by
  have HI := Lib.hid hI
  have HS := Lib.hid hs
  have HTS := Lib.hid (tag_size i hi)
  clear hI hs hi
  have g1 := bel_alloc w (.cells #[.string a.says, .string a.pred, .int .i64 a.n, .bool a.t0.v, .string a.t0.name, .bool a.t1.v, .string a.t1.name, .bool a.t2.v, .string a.t2.name, .bool a.t3.v, .string a.t3.name] 30)
  have hA := AtomAt.new w a
  have g2 := bel_alloc (w.alloc (.cells #[.string a.says, .string a.pred, .int .i64 a.n, .bool a.t0.v, .string a.t0.name, .bool a.t1.v, .string a.t1.name, .bool a.t2.v, .string a.t2.name, .bool a.t3.v, .string a.t3.name] 30)) (.cells #[.string zeroA.says, .string zeroA.pred, .int .i64 zeroA.n, .bool zeroA.t0.v, .string zeroA.t0.name, .bool zeroA.t1.v, .string zeroA.t1.name, .bool zeroA.t2.v, .string zeroA.t2.name, .bool zeroA.t3.v, .string zeroA.t3.name] 30)
  have hZ := AtomAt.new (w.alloc (.cells #[.string a.says, .string a.pred, .int .i64 a.n, .bool a.t0.v, .string a.t0.name, .bool a.t1.v, .string a.t1.name, .bool a.t2.v, .string a.t2.name, .bool a.t3.v, .string a.t3.name] 30)) zeroA
  rw [show (w.alloc (.cells #[.string a.says, .string a.pred, .int .i64 a.n, .bool a.t0.v, .string a.t0.name, .bool a.t1.v, .string a.t1.name, .bool a.t2.v, .string a.t2.name, .bool a.t3.v, .string a.t3.name] 30)).heap.size = w.heap.size + 1 by simp] at hZ
  have hA := hA.bel g2
  have hb := g1.trans' g2
  obtain ⟨d0, d1, d2, _⟩ := hA.cells
  simp only [zeroA, zeroT] at hb hA d0 d1 d2
  have hc4 := cntI_le a.n
  clear g1 g2
  have hmin := min_le a.n
  generalize hcc : cntI a.n = c at hc4 hmin
  have HC := Lib.hid hcc
  clear hcc
  obtain ⟨mn, hmn⟩ : ∃ mn, mn = min a.n 4 := ⟨_, rfl⟩
  rw [← hmn] at hmin
  have HM := Lib.hid hmn
  have hq0 : ¬ ((i : Int) < 0) := by omega
  go_enter Tryd.func10, Tryd.ntmps10
  go_wp2_with (go_at_call 28; refine (HI.out _ hb).mono ?_; rintro e w1 ⟨⟨s, HSS, rfl⟩, hg⟩; have hsl : s.size ≤ 11 := (by have h9 := HTS.out; unfold tagD at h9; rw [← HSS.out, app_size] at h9; omega); have hA := hA.bel hg; have hZ := hZ.bel hg; obtain ⟨d0, d1, d2, _⟩ := hA.cells; have hb := hb.trans' hg; clear hg)
  obtain ⟨tg, htg⟩ : ∃ tg, tg = (⟨#[35]⟩ : ByteArray) ++ s := ⟨_, rfl⟩
  rw [← htg]
  simp only [← hmn]
  have HTG : RowKit.Hid (tg = tagD i) := Lib.hid (by rw [htg, HSS.out]; rfl)
  have htl : tg.size ≤ 11 := by rw [HTG.out]; exact HTS.out
  have HA0 := Lib.hid hA
  have HZ0 := Lib.hid hZ
  have HB0 := Lib.hid hb
  clear htg hmn hA hZ hb d0 d1 d2 hsl HSS
  go_loopw [16] (fun i0 wr => ∃ k : Nat, k ≤ c ∧ i0 = .int .i64 k ∧ RowKit.Hid (Bel w wr ∧ AtomAt wr w.heap.size (mapK (renT i) a k) ∧ AtomAt wr (w.heap.size + 1) zeroA)) (fun i0 _ => c - (intOf i0).toNat)
  case atStart => exact ⟨0, Nat.zero_le _, rfl, Lib.hid ⟨HB0.out, HA0.out, HZ0.out⟩⟩
  case round =>
    obtain ⟨k, hk, rfl, H⟩ := hrel
    clear HB0 HA0 HZ0
    have hA := H.out.2.1
    have hb := H.out.1
    have hZ := H.out.2.2
    clear H
    by_cases hlt : k < c
    · have hk4 : k < 4 := by omega
      have hq : (0 : Int) ≤ k := by omega
      have hq1 : (k : Int) < 4 := by omega
      have hq2 : (k : Int) < mn := (hmin k).2 hlt
      obtain ⟨t, ht⟩ := args_some a k hk4
      have ht2 := mapK_arg (renT i) a k hk4 t ht
      obtain ⟨c1, c2⟩ := terms_at hA ht2
      have hts : t.name.size ≤ 1000 := HS.out t (List.mem_of_getElem? ht)
      have HT := Lib.hid ht
      clear ht ht2
      cases hv : t.v
      · have HN := Lib.hid (mapK_cst a i k hk4 t HT.out hv)
        rw [hv] at c1
        clear hv c2
        go_wp2
        go_roundw
        case rel => exact ⟨k + 1, by omega, by go_num, Lib.hid ⟨hb, by rw [← HN.out]; exact hA, hZ⟩⟩
        case measure => simp [intOf]; omega
      · have HN := Lib.hid (mapK_var a i k hk4 t HT.out hv)
        rw [hv] at c1
        clear hv
        go_wp2_with ((with_reducible refine wpList_store_s ?_ (.tmp 33) (.tmp 30) ?_ w.heap.size k (t.name ++ tg) ?_ ?_ hA hk4 ?_); rfl; rfl; rfl; rfl; intro w3 hA3 hb3 ho3)
        go_roundw
        case rel =>
          refine ⟨k + 1, by omega, by go_num, Lib.hid ⟨hb.trans hb3, ?_, (ho3 _ (by omega)).trans hZ⟩⟩
          rw [← HN.out, ← HTG.out]; exact hA3
        case measure => simp [intOf]; omega
    · obtain rfl : k = c := by omega
      have hq2 : ¬ (k : Int) < mn := fun h => hlt ((hmin k).1 h)
      have HQ : RowKit.Hid (mapK (renT i) a k = renD a i) := Lib.hid (by rw [← HC.out]; rfl)
      obtain ⟨q, hq⟩ : ∃ q, q = mapK (renT i) a k := ⟨_, rfl⟩
      rw [← hq] at hA
      have HQ2 := Lib.hid (hq.trans HQ.out)
      clear hq HQ
      obtain ⟨f0, f1, f2, f3, f4, f5, f6, f7, f8, f9, f10⟩ := hA.cells
      go_wp2_with ((with_reducible refine wpList_store_atom ?_ (.tmp 4) (.tmp 35) ?_ (w.heap.size + 1) q ?_ ?_ hZ ?_); rfl; rfl; rfl; rfl; intro w3 hR hb3 _; have hb := hb.trans (hb3.mono (Nat.le_succ _)); clear hb3)
      try simp only [Exit.inBlock, Exit.then]
      refine bodyPost_ret (results_atom rfl _ _ _ _ rfl hR) rfl ?_
      exact ⟨⟨_, HQ2, rfl⟩, hb⟩
end Go.Proofs.YtkcnbdlhggoojaaDoor
