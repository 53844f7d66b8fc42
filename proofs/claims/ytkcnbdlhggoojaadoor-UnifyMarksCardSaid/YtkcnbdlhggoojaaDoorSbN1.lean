/-
  The chapter's example: what each call answers; a list appended to a full one. Conditions: as each says.
-/
import Derived.Test.YtkcnbdlhggoojaaDoorSbP2
import Derived.Test.YtkcnbdlhggoojaaDoorSbY1
namespace Go.Proofs.YtkcnbdlhggoojaaDoor
open Go.RowKit

def eqBs : List BindD → List BindD → Bool
  | [], [] => true
  | a :: l, b :: m => eqB a b && eqBs l m
  | _, _ => false
theorem eqB_iff {a b : BindD} (h : eqB a b = true) : a = b := by
  unfold eqB at h
  rw [Bool.and_eq_true] at h
  exact BindD.ext' ((ba_eq _ _).1 h.1) ((eqT_iff _ _).1 h.2)
theorem eqBs_iff : ∀ {l m : List BindD}, eqBs l m = true → l = m
  | [], [], _ => rfl
  | a :: l, b :: m, h => by
    unfold eqBs at h
    rw [Bool.and_eq_true] at h
    rw [eqB_iff h.1, eqBs_iff h.2]
  | [], _ :: _, h => by simp [eqBs] at h
  | _ :: _, [], h => by simp [eqBs] at h
def cT (s : UInt8) : TermD := ⟨false, ⟨#[s]⟩⟩
def vT (s : UInt8) : TermD := ⟨true, ⟨#[s]⟩⟩
def bD (s : UInt8) (t : TermD) : BindD := ⟨⟨#[s]⟩, t⟩
def wantD : List BindD := [bD 88 (cT 98), bD 89 (cT 99), bD 90 (cT 99)]
theorem pair_eq {p : List BindD × Int} {l : List BindD} {n : Int} (h1 : eqBs p.1 l = true) (h2 : p.2 = n) : p = (l, n) := by
  obtain ⟨a, b⟩ := p
  have e1 : a = l := eqBs_iff h1
  have e2 : b = n := h2
  rw [e1, e2]
theorem ex1 : bindD twoD ⟨#[90]⟩ (cT 99) = (wantD, 0) := pair_eq (by decide +kernel) (by decide +kernel)
theorem ex2 : bindD twoD ⟨#[88]⟩ (cT 99) = ([], 5) := pair_eq (by decide +kernel) (by decide +kernel)
theorem ex3 : bindD twoD ⟨#[90]⟩ (vT 89) = ([], 2) := pair_eq (by decide +kernel) (by decide +kernel)
theorem ex4 : bindD twoD ⟨#[]⟩ (cT 99) = ([], 2) := pair_eq (by decide +kernel) (by decide +kernel)
theorem ex5 : bindD [bD 88 (vT 88)] ⟨#[89]⟩ (cT 99) = ([], 15) := pair_eq (by decide +kernel) (by decide +kernel)
theorem ex6 : compD [bD 88 (vT 89)] [bD 89 (vT 88)] = ([bD 89 (vT 88)], 0) := pair_eq (by decide +kernel) (by decide +kernel)
theorem ex7 : compD twoD [bD 90 (cT 99)] = (wantD, 0) := pair_eq (by decide +kernel) (by decide +kernel)
theorem ex8 : getR twoD ⟨#[89]⟩ = (vT 90, true) := getR_some (by rfl)
theorem ex9 : getR twoD ⟨#[90]⟩ = (zeroT, false) := getR_none (by rfl)
theorem ex10 : subT twoD (cT 88) = cT 88 := rfl
theorem ex11 : restD twoD [⟨#[89]⟩, ⟨#[81]⟩] = twoD.drop 1 := eqBs_iff (by decide +kernel)
theorem ex12 : errB (twoD ++ twoD) = 15 := by decide +kernel

theorem sameB2_any (A : Option Addr) (l : List BindD) (n ca : Nat) (hn : l.length = n) (B : Option Addr) (m : List BindD) (n2 cb : Nat) (hm : m = l) (hn2 : l.length = n2) (w : World) (hL : BL w A ca l) (hM : BL w B cb m) (hl : l.length ≤ 1000000) :
    Calls Tryd.prog 12 #[.slice A n ca, .slice B n2 cb] w fun e w' => e = .returned (.bool true) ∧ Bel w w' := by
  subst hm
  subst hn2
  subst hn
  exact sameB_any A m m.length ca rfl B cb w hL hM hl
theorem step_freshes {ops : Array Oper} {o : Oper} {a : Act} {W : World} {K : Act → World → Prop} {Q : Exit → Act → World → Prop} {E : Prop} (s x : Operand) (t : TypeId) (ht : Tryd.prog.underlying t = some (.slice 39))
    (ho : o.op = .call { callee := .builtin .append, args := #[s, x], argTypes := #[t, t] }) {A : Option Addr} {i n cm : Nat} {ad : Addr} {pre m : List BindD} (hs : a.eval s = .slice A i i) (hx : a.eval x = .slice (some ad) n cm)
    (hS : SliceAt encB 3 W A i pre) (hl : pre.length = i) (hM : SliceAt encB 3 W (some ad) cm m) (hn : m.length = n) (hn0 : 0 < n) (hi : i + n ≤ 2000000) (hw : Region.wanted o (yielded ops a.tmps) = true)
    (h : ∀ q' c' w' out', RowKit.Hid (out' = pre ++ m) → RowKit.Hid (OB W w' q' c' out') → K (a.put o.dst (.slice q' out'.length c')) w') : if Region.wanted o (yielded ops a.tmps) = true then Oper.wp Tryd.prog o a W K Q else E := by
  obtain ⟨i0, hi0, hz0, hz1, hz2⟩ := info_B
  rw [if_pos hw]
  have key := step_append_grows (P := Tryd.prog) (ops := ops) (o := { o with guard := none }) (a := a) (w := W) (K := K) (Q := Q) (E := False) rfl s x t ho 39 i0 _ 3 40 ht hi0 hz0 hz1 hz2 rfl (by decide) A i i (flatL encB pre) hs (fun e => ⟨hS.nil e, hS.nil e⟩) (by rw [flat_len EB, hl]) (fun b' e j u hu => by
    have hi0 : 0 < i := by
      cases pre with
      | nil => simp [flatL] at hu
      | cons y pre => simp at hl; omega
    obtain ⟨b0, o0, rfl⟩ := hS.lt b' e hi0
    subst e
    exact hS.items.load EB j u hu) ad n cm (flatL encB m) hx (by rw [flat_len EB, hn]) (hM.loadAny EB) (flat_cells EB m) (by omega) (by unfold maxLen; omega) (by omega) (fun v' w' hown hgrow => by
    have hP : OwnL encB 3 39 W w' v' (pre ++ m) := OwnL.of_fresh EB (by rw [flat_append]; exact hown) hgrow
    obtain ⟨q', c', rfl⟩ := hP.value
    exact h q' c' w' (pre ++ m) (Lib.hid rfl) (Lib.hid hP))
  rw [if_pos (by simp [Region.wanted])] at key
  exact key
end Go.Proofs.YtkcnbdlhggoojaaDoor
