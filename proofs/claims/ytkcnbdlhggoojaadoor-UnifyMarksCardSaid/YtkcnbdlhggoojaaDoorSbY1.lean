/-
  The statements' helper Same at one list of bindings laid twice; the reference's Restrict. Conditions: as each says.
-/
import Derived.Test.YtkcnbdlhggoojaaDoorSbP1
namespace Go.Proofs.YtkcnbdlhggoojaaDoor
open Go.RowKit

def eqB (a b : BindD) : Bool := a.v == b.v && eqT a.t b.t
theorem eqB_self (a : BindD) : eqB a a = true := by
  unfold eqB
  rw [Bool.and_eq_true]
  exact ⟨(ba_eq _ _).2 rfl, (eqT_iff _ _).2 rfl⟩
theorem eqin_bind (w : World) (d : Nat) (a b : BindD) : (Op.equalIn (d + 3) 39 (.agg #[.string a.v, .bool a.t.v, .string a.t.name]) (.agg #[.string b.v, .bool b.t.v, .string b.t.name])).run Tryd.prog w = .ok (eqB a b) w := by
  have hst : Tryd.prog.stoodInHeld 39 = false := by kernel_rfl
  have p0 : ∀ (a b c : Value) (w : World), (part 9 #[a, b, c] 0).run Tryd.prog w = .ok a w := fun _ _ _ _ => by kernel_rfl
  have p1 : ∀ (a b c : Value) (w : World), (part 27 #[a, b, c] 1).run Tryd.prog w = .ok (.agg #[b, c]) w := fun _ _ _ _ => by kernel_rfl
  have h0 := fun w => eqin_str w (d + 1) a.v b.v
  have h1 := fun w => eqin_term w d a.t b.t
  unfold eqB
  rw [Op.equalIn]
  cases e0 : a.v == b.v <;> cases e1 : eqT a.t b.t <;> rw [e0] at h0 <;> rw [e1] at h1 <;>
    simp [run_underlying Tryd.underlying39, hst, p0, p1, h0, h1]
theorem neq_bind (a b : BindD) (w : World) : (binOp .neq 39 (.agg #[.string a.v, .bool a.t.v, .string a.t.name]) (.agg #[.string b.v, .bool b.t.v, .string b.t.name])).run Tryd.prog w = .ok (.bool (!eqB a b)) w := by
  have h := eqin_bind w 9997 a b
  simp only [binOp]
  simp [Op.equal, Op.maxDepth, h]

set_option maxHeartbeats 2000000 in
theorem sameB_any (A : Option Addr) (l : List BindD) (n ca : Nat) (hn : l.length = n) (B : Option Addr) (cb : Nat) (w : World) (hL : BL w A ca l) (hM : BL w B cb l) (hl : l.length ≤ 1000000) :
    Calls Tryd.prog 12 #[.slice A n ca, .slice B n cb] w fun e w' => e = .returned (.bool true) ∧ Bel w w' := by
  subst hn
  have HL := Lib.hid hL
  have HM := Lib.hid hM
  clear hL hM
  go_enter Tryd.func12, Tryd.ntmps12
  go_wp2
  go_loopw [5] (fun i wr => ∃ k : Nat, k ≤ l.length ∧ i = .int .i64 k ∧ RowKit.Hid (Bel w wr)) (fun i _ => l.length - (intOf i).toNat)
  case atStart => exact ⟨0, Nat.zero_le _, rfl, Lib.hid (Below.refl _ _)⟩
  case round =>
    obtain ⟨k, hk, rfl, HB⟩ := hrel
    by_cases hlt : k < l.length
    · obtain ⟨b, o, rfl, _, hc⟩ := bl_get (HL.out.bel HB.out) (by omega)
      obtain ⟨c1, c2, c3⟩ := hc k hlt
      obtain ⟨b', o', rfl, _, hc'⟩ := bl_get (HM.out.bel HB.out) (by omega)
      obtain ⟨d1, d2, d3⟩ := hc' k hlt
      have hq : (0 : Int) ≤ k := by omega
      have hq2 : (k : Int) < l.length := by omega
      clear hc hc'
      generalize l[k] = x at c1 c2 c3 d1 d2 d3
      have he := eqB_self x
      have hn := neq_bind x x
      rw [he] at hn
      go_wp2
      go_quiet (fail)
      go_wp2
      go_roundw
      case rel => exact ⟨k + 1, by omega, by go_num, Lib.hid (HB.out.trans' (by first | exact Below.refl _ _ | exact bel_drewN _ _))⟩
      case measure => simp [intOf]; omega
    · obtain rfl : k = l.length := by omega
      go_wp2
      go_ret
      exact ⟨rfl, HB.out⟩
end Go.Proofs.YtkcnbdlhggoojaaDoor
