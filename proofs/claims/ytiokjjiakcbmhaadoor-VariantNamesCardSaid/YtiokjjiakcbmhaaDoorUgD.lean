/-
  Unifying: the walks of its helpers, and of the function that binds one more variable in the caller's list. Conditions: as each says. The function that binds one more variable in its caller's list. Conditions: as each says. Unify: the walk. Conditions: as it says. Marking the variables of an atom; what two atoms meet in: the walks. Conditions: as each says. What two atoms meet in, and the reference's Under: the walks. Conditions: as each says.
-/
import Derived.Test.YtiokjjiakcbmhaaDoorUnA
import Derived.Test.YtiokjjiakcbmhaaDoorMgA
import Derived.Test.YtiokjjiakcbmhaaDoorUnC
import Derived.Test.YtiokjjiakcbmhaaDoorShelf
namespace Go.Proofs.YtiokjjiakcbmhaaDoor
open Go.RowKit

/-- block b is a list's place: the slice value q -/
def LAt (w : World) (b : Nat) (q : Option Addr) (n c : Nat) : Prop := w.heap[b]? = some (.cells #[.slice q n c] 40)
theorem LAt.bel {w w' : World} {b : Nat} {q : Option Addr} {n c : Nat} (h : LAt w b q n c) (hg : Bel w w') : LAt w' b q n c := (hg.block b (Array.getElem?_eq_some_iff.1 h).1).trans h
theorem LAt.cell {w : World} {b : Nat} {q : Option Addr} {n c : Nat} (h : LAt w b q n c) : w.cell? ⟨b, 0, none⟩ = some (.slice q n c) := cell_of_block h rfl
theorem LAt.lt {w : World} {b : Nat} {q : Option Addr} {n c : Nat} (h : LAt w b q n c) : b < w.heap.size := (Array.getElem?_eq_some_iff.1 h).1
theorem LAt.frozen {w : World} {b : Nat} {q : Option Addr} {n c : Nat} (h : LAt w b q n c) (i : Nat) : w.frozen? ⟨b, i, none⟩ = false := by
  unfold LAt at h
  simp [World.frozen?, h]
theorem LAt.set {w : World} {b : Nat} {q q' : Option Addr} {n c n' c' : Nat} (h : LAt w b q n c) : LAt (w.setCell ⟨b, 0, none⟩ (.slice q' n' c')) b q' n' c' ∧ Below b w (w.setCell ⟨b, 0, none⟩ (.slice q' n' c')) ∧ ∀ k, k ≠ b → (w.setCell ⟨b, 0, none⟩ (.slice q' n' c')).heap[k]? = w.heap[k]? := by
  have ho : ∀ k, k ≠ b → (w.setCell ⟨b, 0, none⟩ (.slice q' n' c')).heap[k]? = w.heap[k]? := fun k hk => by
    simp [World.setCell, Array.getElem?_modify, Ne.symm hk]
  refine ⟨?_, ⟨rfl, rfl, rfl, by simp, fun k hk => ho k (by omega)⟩, ho⟩
  unfold LAt at h ⊢
  simp [World.setCell, Array.getElem?_modify, h]
theorem OB.keep {w W W' : World} {q : Option Addr} {c : Nat} {l : List BindD} (h : OB w W q c l) {b : Nat} (hb : b < w.heap.size) (hs : W'.heap.size = W.heap.size) (ho : ∀ k, k ≠ b → W'.heap[k]? = W.heap[k]?) : BL W' q c l := by
  have h0 := OwnL.slice EB h
  refine ⟨fun j hj => ?_, h0.le, h0.nil, h0.lt⟩
  obtain ⟨g, o, e, hg, hc⟩ := h0.items j hj
  subst e
  have hge : w.heap.size ≤ g := h.new g (by
    obtain ⟨g', cap, e, ho', hlt, _, _⟩ := row_value h.row (by omega)
    injection e with e1 e2 e3
    injection e1 with e1
    injection e1 with e1 _
    subst e1
    exact ho')
  refine ⟨g, o, rfl, by omega, fun i u hu => ?_⟩
  have := hc i u hu
  rw [← this]
  have hh := ho g (by omega)
  simp [World.cell?, hh]

theorem results_terms2 {fn : Func} {p u : Tmp} (h : fn.results = #[.cell p 24, .cell u 24]) (tmps : Array Value) (w : World) (g k : Nat) (q r : TermD) (hp : tmps.getD p undef = .pointer (some ⟨g, 0, none⟩)) (hu : tmps.getD u undef = .pointer (some ⟨k, 0, none⟩)) (hg : TermAt w g q) (hk : TermAt w k r) :
    (results fn tmps).run Tryd.prog w = .ok (.tuple #[.agg #[.bool q.v, .string q.name], .agg #[.bool r.v, .string r.name]]) w := by
  have hp' : tmps[p]?.getD undef = .pointer (some ⟨g, 0, none⟩) := by simpa using hp
  have hu' : tmps[u]?.getD undef = .pointer (some ⟨k, 0, none⟩) := by simpa using hu
  simp only [results, h]
  simp [Sem.run_bind, Result.andThen, hp', hu', asAddr, load_term hg, load_term hk]
end Go.Proofs.YtiokjjiakcbmhaaDoor
namespace Go.Proofs.YtiokjjiakcbmhaaDoor
open Go.RowKit

end Go.Proofs.YtiokjjiakcbmhaaDoor
namespace Go.Proofs.YtiokjjiakcbmhaaDoor
open Go.RowKit

theorem AtomAt.belB {w w' : World} {b B : Nat} {a : AtomD} (h : AtomAt w b a) (hb : b < B) (hg : Below B w w') : AtomAt w' b a := (hg.block b hb).trans h
theorem uniL_eq {m : List BindD} {t u : TermD} {ts us : List TermD} (h : eqT (subT m t) (subT m u) = true) : uniL m (t :: ts) (u :: us) = uniL m ts us := by
  conv => lhs; unfold uniL
  rw [if_pos h]
theorem uniL_stop {m : List BindD} {t u v x : TermD} {ts us : List TermD} (h : eqT (subT m t) (subT m u) = false) (hd : (v, x) = dirD (subT m t) (subT m u)) (k : v.v = false) : uniL m (t :: ts) (u :: us) = none := by
  unfold uniL
  rw [if_neg (by rw [h]; decide), ← hd, if_pos k]
theorem uniL_bind {m o : List BindD} {t u v x : TermD} {ts us : List TermD} (h : eqT (subT m t) (subT m u) = false) (hd : (v, x) = dirD (subT m t) (subT m u)) (k : v.v = true) (hb : (o, 0) = bindD m v.name x) : uniL m (t :: ts) (u :: us) = uniL o ts us := by
  conv => lhs; unfold uniL
  rw [if_neg (by rw [h]; decide), ← hd, if_neg (by rw [k]; decide), if_pos (by rw [← hb]), ← hb]
theorem uniL_fail {m o : List BindD} {n : Int} {t u v x : TermD} {ts us : List TermD} (h : eqT (subT m t) (subT m u) = false) (hd : (v, x) = dirD (subT m t) (subT m u)) (k : v.v = true) (hb : (o, n) = bindD m v.name x) (hn : n ≠ 0) : uniL m (t :: ts) (u :: us) = none := by
  unfold uniL
  rw [if_neg (by rw [h]; decide), ← hd, if_neg (by rw [k]; decide), if_neg (by rw [← hb]; exact hn)]
theorem uniL_end {m : List BindD} {a b : AtomD} {k : Nat} (hk : cntI a.n ≤ k) : uniL m ((argsN a).drop k) ((argsN b).drop k) = some m := by
  have : (argsN a).drop k = [] := List.drop_of_length_le (by rw [argsN_len]; exact hk)
  rw [this]; simp [uniL]
theorem uniR_no {a b : AtomD} (h : alikeD a b = false) : uniR a b = ([], false) := by
  have : uniD a b = none := by unfold uniD; rw [if_neg (by rw [h]; decide)]
  unfold uniR
  rw [this]; rfl
theorem uniR_fail {a b : AtomD} (hp : alikeD a b = true) (h : none = uniL [] (argsN a) (argsN b)) : uniR a b = ([], false) := by
  have : uniD a b = none := by unfold uniD; rw [if_pos hp]; exact h.symm
  unfold uniR
  rw [this]; rfl
theorem uniR_done {a b : AtomD} {m : List BindD} (hp : alikeD a b = true) (h : some m = uniL [] (argsN a) (argsN b)) : uniR a b = (m, true) := by
  have : uniD a b = some m := by unfold uniD; rw [if_pos hp]; exact h.symm
  unfold uniR
  rw [this]; rfl

end Go.Proofs.YtiokjjiakcbmhaaDoor
namespace Go.Proofs.YtiokjjiakcbmhaaDoor
open Go.RowKit

theorem bel_grow (w : World) (q : Nat) (os : Array Obj) : Bel w (Sort.grow (w.drewN q) os) :=
  ⟨rfl, rfl, rfl, by first | (simp [Sort.grow]; done) | (simp [Sort.grow]; omega), fun i hi => by
    show ((w.drewN q).heap ++ os)[i]? = _
    rw [Array.getElem?_append_left (by show i < w.heap.size; omega)]
    rfl⟩
/-- the digits of a mark are made, from the world W on -/
def ItoaAt (W : World) (i : Nat) : Prop := ∀ w', Bel W w' → Calls Tryd.prog 32 #[.int .i64 i] w' fun e w'' => (∃ s : ByteArray, RowKit.Hid (s = ⟨(Lib.decDigits i).toArray⟩) ∧ e = .returned (.string s)) ∧ Bel w' w''
theorem itoa_small (W : World) (i : Nat) (hi : i < 100) : ItoaAt W i := fun w' _ => (Tryd.strconv_Itoa_small i hi w').mono (by rintro e w'' ⟨rfl, rfl⟩; exact ⟨⟨_, Lib.hid rfl, rfl⟩, Below.refl _ _⟩)
theorem ItoaAt.bel {W W' : World} {i : Nat} (h : ItoaAt W i) (hg : Bel W W') : ItoaAt W' i := fun w' hw => h w' (hg.trans' hw)

def setS (a : AtomD) (i : Nat) (s : ByteArray) : AtomD := match i with
  | 0 => ⟨a.says, a.pred, a.n, ⟨a.t0.v, s⟩, a.t1, a.t2, a.t3⟩
  | 1 => ⟨a.says, a.pred, a.n, a.t0, ⟨a.t1.v, s⟩, a.t2, a.t3⟩
  | 2 => ⟨a.says, a.pred, a.n, a.t0, a.t1, ⟨a.t2.v, s⟩, a.t3⟩
  | _ => ⟨a.says, a.pred, a.n, a.t0, a.t1, a.t2, ⟨a.t3.v, s⟩⟩
theorem store_s {w : World} {g : Nat} {a0 : AtomD} (h : AtomAt w g a0) (i : Nat) (hi : i < 4) (v : ByteArray) : ∃ w3, (storeVar 9 ⟨g, 3 + i * 2 + 1, none⟩ (.string v)).run Tryd.prog w = .ok () w3 ∧ AtomAt w3 g (setS a0 i v) ∧ Below g w w3 ∧ ∀ k, k ≠ g → w3.heap[k]? = w.heap[k]? := by
  have hst := run_storeCells_at Tryd.prog g (3 + i * 2 + 1) 27 [.string v] 0 _ w h (by simp; omega) (by intro u hu; simp at hu; subst hu; rfl)
  have hi' : (Tryd.prog.info? 9).map (·.size) = some 1 := by kernel_rfl
  cases hq : Tryd.prog.info? 9 with
  | none => rw [hq] at hi'; cases hi'
  | some i0 =>
    have hz1 : i0.size = 1 := by rw [hq] at hi'; simpa using hi'
    have e : (storeVar 9 ⟨g, 3 + i * 2 + 1, none⟩ (.string v)).run Tryd.prog w = (storeCells ⟨g, 3 + i * 2 + 1, none⟩ [.string v] 0).run Tryd.prog w := by
      simp [storeVar, sizeOf, typeInfo, hq, Value.cells, hz1]
    refine ⟨_, e.trans hst, ?_, ⟨rfl, rfl, rfl, by simp [World.setRow], fun k hk => setRow_other w g k _ (by omega)⟩, fun k hk => setRow_other w g k _ hk⟩
    unfold AtomAt
    rw [setRow_heap w g _ _ 27 _ h]
    obtain rfl | rfl | rfl | rfl : i = 0 ∨ i = 1 ∨ i = 2 ∨ i = 3 := by omega
    all_goals rfl
theorem wpList_store_s {ops : Array Oper} {rest : List Oper} {o : Oper} {a : Act} {w : World} {Q : Exit → Act → World → Prop} (hgd : o.guard = none) (x y : Operand) (ho : o.op = .store 9 x y) (g i : Nat) (v : ByteArray)
    (hx : a.eval x = .pointer (some ⟨g, 3 + i * 2 + 1, none⟩)) (hy : a.eval y = .string v) {a0 : AtomD} (hg : AtomAt w g a0) (hi : i < 4)
    (h : ∀ w', AtomAt w' g (setS a0 i v) → Below g w w' → (∀ k, k ≠ g → w'.heap[k]? = w.heap[k]?) → wpList Tryd.prog ops Q rest (a.put o.dst undef) w') : wpList Tryd.prog ops Q (o :: rest) a w := by
  obtain ⟨w3, hst, h1, h2, h3⟩ := store_s hg i hi v
  refine wpList_plain hgd fun _ hK => ?_
  unfold Oper.wp execOp
  simp only [ho, hx, hy, Instr.storeAt, Instr.sureAddr, Sem.run_bind, Sem.run_pure, Result.andThen_ok, hst]
  exact hK _ _ (h w3 h1 h2 h3)
def mapK (f : TermD → TermD) (a : AtomD) (k : Nat) : AtomD :=
  ⟨a.says, a.pred, a.n, if 0 < k then f a.t0 else a.t0, if 1 < k then f a.t1 else a.t1, if 2 < k then f a.t2 else a.t2, if 3 < k then f a.t3 else a.t3⟩
theorem mapK_arg (f : TermD → TermD) (a : AtomD) (k : Nat) (hk : k < 4) (t : TermD) (ht : (argsD a)[k]? = some t) : (argsD (mapK f a k))[k]? = some t := by
  obtain rfl | rfl | rfl | rfl : k = 0 ∨ k = 1 ∨ k = 2 ∨ k = 3 := by omega
  all_goals
    simp only [argsD, List.getElem?_cons_zero, List.getElem?_cons_succ, Option.some.injEq] at ht
    subst ht
    rfl
theorem mapK_var (a : AtomD) (i k : Nat) (hk : k < 4) (t : TermD) (ht : (argsD a)[k]? = some t) (hv : t.v = true) : setS (mapK (renT i) a k) k (t.name ++ tagD i) = mapK (renT i) a (k + 1) := by
  have e : renT i t = ⟨t.v, t.name ++ tagD i⟩ := by unfold renT; rw [if_pos hv, hv]
  obtain rfl | rfl | rfl | rfl : k = 0 ∨ k = 1 ∨ k = 2 ∨ k = 3 := by omega
  all_goals
    simp only [argsD, List.getElem?_cons_zero, List.getElem?_cons_succ, Option.some.injEq] at ht
    subst ht
    unfold mapK setS
    simp [e]
theorem mapK_cst (a : AtomD) (i k : Nat) (hk : k < 4) (t : TermD) (ht : (argsD a)[k]? = some t) (hv : t.v = false) : mapK (renT i) a k = mapK (renT i) a (k + 1) := by
  have e : renT i t = t := by unfold renT; rw [if_neg (by rw [hv]; decide)]
  obtain rfl | rfl | rfl | rfl : k = 0 ∨ k = 1 ∨ k = 2 ∨ k = 3 := by omega
  all_goals
    simp only [argsD, List.getElem?_cons_zero, List.getElem?_cons_succ, Option.some.injEq] at ht
    subst ht
    unfold mapK
    simp [e]
theorem tag_size (i : Nat) (hi : i < 10000000000) : (tagD i).size ≤ 11 := by
  have h1 := digits_len 9 i (by omega)
  have h2 : (tagD i).data.toList.length = (tagD i).size := Array.length_toList
  rw [tag_list] at h2
  simp at h2
  omega

end Go.Proofs.YtiokjjiakcbmhaaDoor
namespace Go.Proofs.YtiokjjiakcbmhaaDoor
open Go.RowKit

theorem uniL_len6 : ∀ {ts us : List TermD} {m n : List BindD}, uniL m ts us = some n → n.length ≤ m.length + ts.length
  | [], us, m, n, h => by
    obtain rfl : m = n := by simpa [uniL] using h
    simp
  | t :: ts, [], m, n, h => by
    obtain rfl : m = n := by simpa [uniL] using h
    simp
  | t :: ts, u :: us, m, n, h => by
    unfold uniL at h
    split at h
    · have := uniL_len6 h
      simp; omega
    · split at h
      · cases h
      · split at h
        · have := uniL_len6 h
          have h2 := bindD_len m (dirD (subT m t) (subT m u)).1.name (dirD (subT m t) (subT m u)).2
          simp; omega
        · cases h
theorem uniR_len6 {a b : AtomD} {l : List BindD} {is : Bool} (h : (l, is) = uniR a b) : l.length ≤ 4 := by
  cases is
  · rw [(uniR_none h).1]; simp
  · have h1 := uniL_len6 (uni_pre (uniR_some h)).2
    have h2 := argsN_len a
    have h3 := cntI_le a.n
    simp at h1
    omega
def argAt (a : AtomD) (i : Nat) : TermD := (argsD a).getD i zeroT
def headU (p a : AtomD) (i : Nat) : Bool := (argAt p i).v || eqT (argAt p i) (argAt a i)
def fitU (p a : AtomD) (i k : Nat) : Bool := !((argAt p i).v && eqT (argAt p i) (argAt p k)) || eqT (argAt a i) (argAt a k)
def rowU (p a : AtomD) (i : Nat) : Bool := headU p a i && (List.range i).all (fitU p a i)
def underU (a p : AtomD) : Bool := alikeD a p && (List.range (cntI a.n)).all (rowU p a)
theorem argAt_get {a : AtomD} {k : Nat} {t : TermD} (h : (argsD a)[k]? = some t) : argAt a k = t := by
  unfold argAt
  rw [List.getD_eq_getElem?_getD, h]; rfl
theorem argAt_N {a : AtomD} {i : Nat} (h : i < (argsN a).length) : (argsN a)[i] = argAt a i := by
  rw [argsN_len] at h
  obtain ⟨h1, h2, h3⟩ := argsN_at h
  rw [h3, argAt_get (List.getElem?_eq_getElem h2)]
theorem underU_eq (a p : AtomD) : underU a p = underD a p := by
  rw [Bool.eq_iff_iff, under_iff]
  unfold underU
  rw [Bool.and_eq_true, List.all_eq_true]
  refine and_congr_right fun hal => ?_
  have hn : cntI a.n = cntI p.n := by rw [(alike_iff.1 hal).2.2.1]
  constructor
  · intro h i j hi hj ki kj
    rw [argAt_N, argAt_N, argAt_N, argAt_N]
    have hiN := hi
    have hjN := hj
    rw [argsN_len] at hiN hjN
    have key : ∀ i j, i < cntI p.n → j < i → (argAt p i).v = true → argAt p i = argAt p j → argAt a i = argAt a j := fun i j hi hji hv he => by
      have hr := h i (List.mem_range.2 (by omega))
      unfold rowU at hr
      rw [Bool.and_eq_true, List.all_eq_true] at hr
      have hf := hr.2 j (List.mem_range.2 hji)
      unfold fitU at hf
      rw [hv, (eqT_iff _ _).2 he] at hf
      exact (eqT_iff _ _).1 (by simpa using hf)
    refine ⟨fun hc => ?_, fun hv he => ?_⟩
    · have hr := h i (List.mem_range.2 (by omega))
      unfold rowU headU at hr
      rw [Bool.and_eq_true, hc] at hr
      exact ((eqT_iff _ _).1 (by simpa using hr.1)).symm
    · rcases Nat.lt_trichotomy i j with hlt | rfl | hlt
      · exact (key j i hjN hlt (by rw [← he]; exact hv) he.symm).symm
      · rfl
      · exact key i j hiN hlt hv he
  · intro h i hi
    have hi := List.mem_range.1 hi
    have hip : i < (argsN p).length := by rw [argsN_len, ← hn]; exact hi
    have hia : i < (argsN a).length := by rw [argsN_len]; exact hi
    unfold rowU
    rw [Bool.and_eq_true, List.all_eq_true]
    refine ⟨?_, fun j hj => ?_⟩
    · have := (h i i hip hip hia hia).1
      rw [argAt_N, argAt_N] at this
      unfold headU
      cases hv : (argAt p i).v with
      | true => rfl
      | false => rw [(eqT_iff _ _).2 (this hv).symm]; rfl
    · have hj := List.mem_range.1 hj
      have hjp : j < (argsN p).length := by omega
      have hja : j < (argsN a).length := by omega
      have := (h i j hip hjp hia hja).2
      rw [argAt_N, argAt_N, argAt_N, argAt_N] at this
      unfold fitU
      cases hv : (argAt p i).v with
      | false => rfl
      | true =>
        cases he : eqT (argAt p i) (argAt p j) with
        | false => rfl
        | true => rw [(eqT_iff _ _).2 (this hv ((eqT_iff _ _).1 he))]; rfl
theorem underU_no {a p : AtomD} (h : alikeD a p = false) : underU a p = false := by unfold underU; rw [h]; rfl
theorem underU_yes {a p : AtomD} (h : alikeD a p = true) (k : (List.range (cntI a.n)).all (rowU p a) = true) : underU a p = true := by unfold underU; rw [h, k]; rfl
theorem underU_not {a p : AtomD} {i : Nat} (hi : i < cntI a.n) (h : rowU p a i = false) : underU a p = false := by
  unfold underU
  rw [Bool.and_eq_false_iff]
  refine .inr ?_
  rw [List.all_eq_false]
  exact ⟨i, List.mem_range.2 hi, by rw [h]; decide⟩
theorem rowU_head {a p : AtomD} {i : Nat} (h : headU p a i = false) : rowU p a i = false := by unfold rowU; rw [h]; rfl
theorem rowU_fit {a p : AtomD} {i k : Nat} (hk : k < i) (h : fitU p a i k = false) : rowU p a i = false := by
  unfold rowU
  rw [Bool.and_eq_false_iff]
  refine .inr ?_
  rw [List.all_eq_false]
  exact ⟨k, List.mem_range.2 hk, by rw [h]; decide⟩
theorem rowU_yes {a p : AtomD} {i : Nat} (h : headU p a i = true) (h2 : (List.range i).all (fitU p a i) = true) : rowU p a i = true := by unfold rowU; rw [h, h2]; rfl

set_option maxRecDepth 20000 in
set_option maxHeartbeats 4000000 in
theorem rAlike5_anyU (a b : AtomD) (w : World) :
    Calls Tryd.prog 37 #[.agg #[.string a.says, .string a.pred, .int .i64 a.n, .bool a.t0.v, .string a.t0.name, .bool a.t1.v, .string a.t1.name, .bool a.t2.v, .string a.t2.name, .bool a.t3.v, .string a.t3.name], .agg #[.string b.says, .string b.pred, .int .i64 b.n, .bool b.t0.v, .string b.t0.name, .bool b.t1.v, .string b.t1.name, .bool b.t2.v, .string b.t2.name, .bool b.t3.v, .string b.t3.name]] w fun e w' => e = .returned (.bool (alikeD a b)) ∧ Bel w w' := by
  have hb := (bel_alloc w (.cells #[.string a.says, .string a.pred, .int .i64 a.n, .bool a.t0.v, .string a.t0.name, .bool a.t1.v, .string a.t1.name, .bool a.t2.v, .string a.t2.name, .bool a.t3.v, .string a.t3.name] 27)).trans' (bel_alloc _ (.cells #[.string b.says, .string b.pred, .int .i64 b.n, .bool b.t0.v, .string b.t0.name, .bool b.t1.v, .string b.t1.name, .bool b.t2.v, .string b.t2.name, .bool b.t3.v, .string b.t3.name] 27))
  have HL : RowKit.Hid (alikeD a b = ((a.says.toList == b.says.toList) && ((a.pred.toList == b.pred.toList) && ((a.n == b.n) && (decide (0 ≤ a.n) && decide (a.n ≤ 4)))))) := Lib.hid rfl
  rcases Bool.eq_false_or_eq_true (a.says.toList == b.says.toList) with q1 | q1 <;> rcases Bool.eq_false_or_eq_true (a.pred.toList == b.pred.toList) with q2 | q2 <;> rcases Bool.eq_false_or_eq_true (a.n == b.n) with q3 | q3 <;> rcases Bool.eq_false_or_eq_true (decide (0 ≤ a.n)) with q4 | q4 <;> rcases Bool.eq_false_or_eq_true (decide (a.n ≤ 4)) with q5 | q5
  all_goals
    rw [q1, q2, q3, q4, q5] at HL
    go_enter Tryd.func37, Tryd.ntmps37
    go_wp2
    go_ret
    exact ⟨ret_bool HL.out.symm, hb⟩
set_option maxRecDepth 20000 in
set_option maxHeartbeats 16000000 in
theorem rUnder_any (a p : AtomD) (w : World) :
    Calls Tryd.prog 16 #[.agg #[.string a.says, .string a.pred, .int .i64 a.n, .bool a.t0.v, .string a.t0.name, .bool a.t1.v, .string a.t1.name, .bool a.t2.v, .string a.t2.name, .bool a.t3.v, .string a.t3.name], .agg #[.string p.says, .string p.pred, .int .i64 p.n, .bool p.t0.v, .string p.t0.name, .bool p.t1.v, .string p.t1.name, .bool p.t2.v, .string p.t2.name, .bool p.t3.v, .string p.t3.name]] w fun e w' => e = .returned (.bool (underD a p)) ∧ Bel w w' := by
  rw [← underU_eq]
  have hP := AtomAt.new w a
  have hG := AtomAt.new (w.alloc (.cells #[.string a.says, .string a.pred, .int .i64 a.n, .bool a.t0.v, .string a.t0.name, .bool a.t1.v, .string a.t1.name, .bool a.t2.v, .string a.t2.name, .bool a.t3.v, .string a.t3.name] 27)) p
  rw [show (w.alloc (.cells #[.string a.says, .string a.pred, .int .i64 a.n, .bool a.t0.v, .string a.t0.name, .bool a.t1.v, .string a.t1.name, .bool a.t2.v, .string a.t2.name, .bool a.t3.v, .string a.t3.name] 27)).heap.size = w.heap.size + 1 by simp] at hG
  have g2 := bel_alloc (w.alloc (.cells #[.string a.says, .string a.pred, .int .i64 a.n, .bool a.t0.v, .string a.t0.name, .bool a.t1.v, .string a.t1.name, .bool a.t2.v, .string a.t2.name, .bool a.t3.v, .string a.t3.name] 27)) (.cells #[.string p.says, .string p.pred, .int .i64 p.n, .bool p.t0.v, .string p.t0.name, .bool p.t1.v, .string p.t1.name, .bool p.t2.v, .string p.t2.name, .bool p.t3.v, .string p.t3.name] 27)
  have hP := hP.bel g2
  have hb := (bel_alloc w (.cells #[.string a.says, .string a.pred, .int .i64 a.n, .bool a.t0.v, .string a.t0.name, .bool a.t1.v, .string a.t1.name, .bool a.t2.v, .string a.t2.name, .bool a.t3.v, .string a.t3.name] 27)).trans' g2
  clear g2
  have hAl := Lib.hid (fun W => rAlike5_anyU a p W)
  cases hal : alikeD a p
  · rw [hal] at hAl
    have HE := Lib.hid (underU_no hal)
    clear hal
    go_enter Tryd.func16, Tryd.ntmps16
    go_wp2_with (go_at_call 37; refine (hAl.out _).mono ?_; rintro e w1 ⟨rfl, hg⟩; have hb := hb.trans' hg; clear hg)
    go_ret
    exact ⟨ret_bool HE.out.symm, hb⟩
  rw [hal] at hAl
  have HAL := Lib.hid hal
  obtain ⟨x1, x2, hpn, hn0, hn4⟩ := alike_iff.1 hal
  obtain ⟨N, hN⟩ : ∃ N, N = cntI a.n := ⟨_, rfl⟩
  have hNn : (N : Int) = a.n := by rw [hN]; unfold cntI; omega
  have HN := Lib.hid hN
  have hN4 : N ≤ 4 := by omega
  have HNP := Lib.hid hNn
  clear hal x1 x2 hpn hn0 hn4 hNn hN
  go_enter Tryd.func16, Tryd.ntmps16
  go_wp2_with (go_at_call 37; refine (hAl.out _).mono ?_; rintro e w1 ⟨rfl, hg⟩; have hP := hP.bel hg; have hG := hG.bel hg; have hb := hb.trans' hg; clear hg)
  have HP := Lib.hid hP
  have HG := Lib.hid hG
  have HB := Lib.hid hb
  clear hP hG hb hAl
  go_loopw [5] (fun i wr => ∃ k : Nat, k ≤ N ∧ i = .int .i64 k ∧ RowKit.Hid (Bel w1 wr ∧ (List.range k).all (rowU p a) = true)) (fun i _ => 4 - (intOf i).toNat)
  case atStart => exact ⟨0, Nat.zero_le _, rfl, Lib.hid ⟨Below.refl _ _, rfl⟩⟩
  case round =>
    obtain ⟨k, hk, rfl, H⟩ := hrel
    have HW := Lib.hid H.out.1
    have HR := Lib.hid H.out.2
    clear H
    have hP := HP.out.bel HW.out
    have hG := HG.out.bel HW.out
    obtain ⟨_, _, pn, _⟩ := hP.cells
    rw [← HNP.out] at pn
    by_cases hlt : k < N
    case neg =>
      obtain rfl : k = N := by omega
      have hkN : ¬ (k : Int) < (k : Int) := by omega
      have HE := Lib.hid (underU_yes HAL.out (by rw [← HN.out]; exact HR.out))
      have HBB := Lib.hid (HB.out.trans' HW.out)
      clear hlt
      go_wp2
      go_ret
      exact ⟨ret_bool HE.out.symm, HBB.out⟩
    have hk4 : k < 4 := by omega
    have hk4i : (k : Int) < 4 := by omega
    have hk0 : (0 : Int) ≤ k := by omega
    have hkN : (k : Int) < (N : Int) := by omega
    obtain ⟨s, hs⟩ := args_get p k hk4
    obtain ⟨t, ht⟩ := args_get a k hk4
    obtain ⟨a1, a2⟩ := terms_at hG hs
    obtain ⟨b1, b2⟩ := terms_at hP ht
    have HS := Lib.hid (argAt_get hs)
    have HT := Lib.hid (argAt_get ht)
    have hlt2 : k < cntI a.n := by rw [← HN.out]; exact hlt
    have HL2 := Lib.hid hlt2
    clear hs ht hP hG hlt2
    obtain ⟨sv, sn⟩ := s
    obtain ⟨tv, tn⟩ := t
    simp only at a1 a2 b1 b2
    go_upto_region 6 with fail
    go_cut [33] (fun s33 wx => s33 = .bool (!headU p a k) ∧ RowKit.Hid (Bel wr wx))
    case first =>
      have hq := neq_term sv tv sn tn
      have HH : RowKit.Hid (headU p a k = (sv || eqT ⟨sv, sn⟩ ⟨tv, tn⟩)) := Lib.hid (by unfold headU; rw [HS.out, HT.out])
      cases sv
      · cases hf : eqT ⟨false, sn⟩ ⟨tv, tn⟩ <;> rw [hf] at hq HH
        all_goals
          clear hf
          go_quiet (fail)
          (try go_wp2_with fail)
          go_meet
          exact ⟨by rw [HH.out]; rfl, Lib.hid (by first | exact Below.refl _ _ | exact bel_drewN _ _ | exact bel_drew' (Below.refl _ _))⟩
      · clear hq
        go_quiet (fail)
        (try go_wp2_with fail)
        go_meet
        exact ⟨by rw [HH.out]; rfl, Lib.hid (by first | exact Below.refl _ _ | exact bel_drewN _ _ | exact bel_drew' (Below.refl _ _))⟩
    obtain ⟨h33, HC⟩ := hcut
    have HWc := Lib.hid (HW.out.trans' HC.out)
    have HBc := Lib.hid (HB.out.trans' HWc.out)
    clear a1 a2 b1 b2 HS HT pn
    cases hh : headU p a k
    · rw [hh] at h33
      have h34 := h33
      simp only [Bool.not_false] at h34
      subst h34
      have HE := Lib.hid (underU_not HL2.out (rowU_head hh))
      clear hh h33
      go_wp2
      go_ret
      exact ⟨ret_bool HE.out.symm, HBc.out⟩
    rw [hh] at h33
    have h34 := h33
    simp only [Bool.not_true] at h34
    subst h34
    have HH := Lib.hid hh
    clear hh h33
    go_wp2
    go_loopw [6] (fun j wi => ∃ k2 : Nat, k2 ≤ k ∧ j = .int .i64 k2 ∧ RowKit.Hid (Bel w1 wi ∧ (List.range k2).all (fitU p a k) = true)) (fun j _ => k - (intOf j).toNat)
    case atStart => exact ⟨0, Nat.zero_le _, rfl, Lib.hid ⟨HWc.out, rfl⟩⟩
    case round =>
      obtain ⟨k2, hk2, rfl, H⟩ := hrel
      have HW2 := Lib.hid H.out.1
      have HR2 := Lib.hid H.out.2
      clear H
      have HB2 := Lib.hid (HB.out.trans' HW2.out)
      by_cases hlt2 : k2 < k
      case neg =>
        obtain rfl : k2 = k := by omega
        have hkk : ¬ (k2 : Int) < (k2 : Int) := by omega
        have HRR := Lib.hid (range_succ HR.out (rowU_yes HH.out HR2.out))
        clear hlt2 hk2
        go_wp2
        go_roundw
        case rel => exact ⟨k2 + 1, by omega, by go_num, Lib.hid ⟨HW2.out, HRR.out⟩⟩
        case measure => simp [intOf]; omega
      have hk24 : k2 < 4 := by omega
      have hk24i : (k2 : Int) < 4 := by omega
      have hk20 : (0 : Int) ≤ k2 := by omega
      have hkk : (k2 : Int) < (k : Int) := by omega
      obtain ⟨s2, hs2⟩ := args_get p k2 hk24
      obtain ⟨t2, ht2⟩ := args_get a k2 hk24
      obtain ⟨s, hs⟩ := args_get p k hk4
      obtain ⟨t, ht⟩ := args_get a k hk4
      have hP := HP.out.bel HW2.out
      have hG := HG.out.bel HW2.out
      obtain ⟨a1, a2⟩ := terms_at hG hs
      obtain ⟨b1, b2⟩ := terms_at hP ht
      obtain ⟨c1, c2⟩ := terms_at hG hs2
      obtain ⟨d1, d2⟩ := terms_at hP ht2
      have HS := Lib.hid (argAt_get hs)
      have HT := Lib.hid (argAt_get ht)
      have HS2 := Lib.hid (argAt_get hs2)
      have HT2 := Lib.hid (argAt_get ht2)
      clear hs ht hs2 ht2 hP hG
      obtain ⟨sv, sn⟩ := s
      obtain ⟨tv, tn⟩ := t
      obtain ⟨xv, xn⟩ := s2
      obtain ⟨yv, yn⟩ := t2
      simp only at a1 a2 b1 b2 c1 c2 d1 d2
      go_upto_region 11 with fail
      go_cut [65] (fun s65 wx => s65 = .bool (!fitU p a k k2) ∧ RowKit.Hid (Bel wr wx))
      case first =>
        have hq := eql_term sv xv sn xn
        have hr := neq_term tv yv tn yn
        have HF : RowKit.Hid (fitU p a k k2 = (!(sv && eqT ⟨sv, sn⟩ ⟨xv, xn⟩) || eqT ⟨tv, tn⟩ ⟨yv, yn⟩)) := Lib.hid (by unfold fitU; rw [HS.out, HT.out, HS2.out, HT2.out])
        cases sv
        · clear hq hr
          go_quiet (fail)
          (try go_wp2_with fail)
          go_meet
          exact ⟨by rw [HF.out]; rfl, Lib.hid (by first | exact Below.refl _ _ | exact bel_drewN _ _ | exact bel_drew' (Below.refl _ _))⟩
        · cases hf : eqT ⟨true, sn⟩ ⟨xv, xn⟩ <;> rw [hf] at hq HF
          · clear hf hr
            go_quiet (fail)
            (try go_wp2_with fail)
            go_meet
            exact ⟨by rw [HF.out]; rfl, Lib.hid (by first | exact Below.refl _ _ | exact bel_drewN _ _ | exact bel_drew' (Below.refl _ _))⟩
          · cases hg : eqT ⟨tv, tn⟩ ⟨yv, yn⟩ <;> rw [hg] at hr HF
            all_goals
              clear hf hg
              go_quiet (fail)
              (try go_wp2_with fail)
              go_meet
              exact ⟨by rw [HF.out]; rfl, Lib.hid (by first | exact Below.refl _ _ | exact bel_drewN _ _ | exact bel_drew' (Below.refl _ _))⟩
      obtain ⟨h65, HC2⟩ := hcut
      have HW3 := Lib.hid (HW2.out.trans' HC2.out)
      have HB3 := Lib.hid (HB.out.trans' HW3.out)
      clear a1 a2 b1 b2 c1 c2 d1 d2 HS HT HS2 HT2
      cases hh : fitU p a k k2
      · rw [hh] at h65
        have h66 := h65
        simp only [Bool.not_false] at h66
        subst h66
        have HE := Lib.hid (underU_not HL2.out (rowU_fit hlt2 hh))
        clear hh h65
        go_wp2
        go_ret
        exact ⟨ret_bool HE.out.symm, HB3.out⟩
      rw [hh] at h65
      have h66 := h65
      simp only [Bool.not_true] at h66
      subst h66
      have HRR := Lib.hid (range_succ HR2.out hh)
      clear hh h65
      go_wp2
      go_roundw
      case rel => exact ⟨k2 + 1, by omega, by go_num, Lib.hid ⟨HW3.out, HRR.out⟩⟩
      case measure => simp [intOf]; omega
end Go.Proofs.YtiokjjiakcbmhaaDoor
