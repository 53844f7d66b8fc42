/-
  The chapter's example; atoms that the statements write out. Conditions: as each says.
-/
import Derived.Test.YtiokjjiakcbmhaaDoorVaE
import Derived.Test.YtiokjjiakcbmhaaDoorUnW
namespace Go.Proofs.YtiokjjiakcbmhaaDoor
open Go.RowKit

def says7 : ByteArray := ⟨#[97, 108, 105, 99, 101]⟩
def pr7 : ByteArray := ⟨#[112]⟩
def op7 : ByteArray := ⟨#[111, 112, 101, 110]⟩
def atV (p : ByteArray) (cs : List ByteArray) : AtomD := storedD says7 p (cs.map nameD)
def vX : ByteArray := ⟨#[88]⟩
def vY : ByteArray := ⟨#[89]⟩
def va : ByteArray := ⟨#[97]⟩
def v0 : ByteArray := ⟨#[86, 48]⟩
def v1 : ByteArray := ⟨#[86, 49]⟩
theorem kV7 (p : ByteArray) (cs : List ByteArray) (n : Nat) (vs : Array Value) (hv : vs = (cs.map Value.string).toArray) (hn : cs.length = n) (h4 : cs.length ≤ 4) (hne : cs.all (fun x => decide (0 < x.size)) = true) (w : World) : Calls Tryd.prog 9 #[.string says7, .string p, .slice (some ⟨w.heap.size, 0, none⟩) n n] (w.alloc (.cells vs 9)) fun e w' => (∃ q, RowKit.Hid (q = atV p cs) ∧ e = .returned (.agg #[.string q.says, .string q.pred, .int .i64 q.n, .bool q.t0.v, .string q.t0.name, .bool q.t1.v, .string q.t1.name, .bool q.t2.v, .string q.t2.name, .bool q.t3.v, .string q.t3.name])) ∧ Bel w w' := by
  subst hn hv
  have hl := listAt_lit w 9 (cs.map Value.string).toArray
  simp only [List.size_toArray, List.length_map] at hl
  refine (kAn_any says7 p (some ⟨w.heap.size, 0, none⟩) cs cs.length _ hl h4 (fun x hx => by simpa using List.all_eq_true.1 hne x hx)).mono ?_
  rintro e w' ⟨h, hg⟩
  exact ⟨h, (bel_alloc _ _).trans' hg⟩
theorem kVg (p : ByteArray) (cs : List ByteArray) (n : Nat) (vs : Array Value) (hv : vs = (cs.map Value.string).toArray) (hn : cs.length = n) (h4 : cs.length ≤ 4) (hne : cs.all (fun x => decide (0 < x.size)) = true) (w : World) (g : Nat) (hg : w.heap.size = g) : Calls Tryd.prog 9 #[.string says7, .string p, .slice (some ⟨g, 0, none⟩) n n] (w.alloc (.cells vs 9)) fun e w' => (∃ q, RowKit.Hid (q = atV p cs) ∧ e = .returned (.agg #[.string q.says, .string q.pred, .int .i64 q.n, .bool q.t0.v, .string q.t0.name, .bool q.t1.v, .string q.t1.name, .bool q.t2.v, .string q.t2.name, .bool q.t3.v, .string q.t3.name])) ∧ Bel w w' := by
  subst hg
  exact kV7 p cs n vs hv hn h4 hne w
theorem kV0 (p : ByteArray) (w : World) : Calls Tryd.prog 9 #[.string says7, .string p, .slice none 0 0] w fun e w' => (∃ q, RowKit.Hid (q = atV p []) ∧ e = .returned (.agg #[.string q.says, .string q.pred, .int .i64 q.n, .bool q.t0.v, .string q.t0.name, .bool q.t1.v, .string q.t1.name, .bool q.t2.v, .string q.t2.name, .bool q.t3.v, .string q.t3.name])) ∧ Bel w w' :=
  kAn_any says7 p none [] 0 w ⟨rfl, .inl rfl⟩ (by simp) (by simp)
theorem eqA_of7 {a b : AtomD} (h : eqA a b = true) : a = b := (eqA_iff _ _).1 h
theorem live7 : canonD (atV pr7 [vY, va, vX, vY]) = atV pr7 [v0, va, v1, v0] := eqA_of7 (by decide +kernel)
theorem smV (cs : List ByteArray) (p : ByteArray) (hp : p.size ≤ 1000) (hl : cs.length ≤ 4) (hs : cs.all (fun x => decide (x.size ≤ 1000)) = true) : AtomSm (atV p cs) := by
  have h : ∀ i, ((cs.map nameD).getD i zeroT).name.size ≤ 1000 := fun i => by
    rw [List.getD_eq_getElem?_getD, List.getElem?_map]
    cases e : cs[i]? with
    | none => exact Nat.zero_le _
    | some x =>
      have := List.all_eq_true.1 hs x (List.mem_of_getElem? e)
      show x.size ≤ 1000
      simpa using this
  exact ⟨(by decide : says7.size ≤ 1000), hp, h 0, h 1, h 2, h 3⟩
set_option maxRecDepth 20000 in
set_option maxHeartbeats 4000000 in
theorem lives7_any (w : World) : Calls Tryd.prog 8 #[] w fun e w' => e = .returned (.bool true) ∧ Bel w w' := by
  have hb : Bel w w := Below.refl _ _
  go_enter Tryd.func8, Tryd.ntmps8
  go_wp2_with (fail)
  refine (kV7 pr7 [vY, va, vX, vY] 4 #[.string ⟨#[89]⟩, .string ⟨#[97]⟩, .string ⟨#[88]⟩, .string ⟨#[89]⟩] rfl rfl (by decide) (by decide +kernel) _).mono ?_
  rintro e w1 ⟨⟨a1, HA1, rfl⟩, hg⟩
  replace hb := hb.trans' hg
  clear hg
  go_wp2_with (fail)
  refine (Canon_any a1 _ (by rw [HA1.out]; exact (smV _ _ (by decide) (by decide) (by decide +kernel)).args)).mono ?_
  rintro e w2 ⟨⟨a2, HA2, rfl⟩, hg⟩
  replace hb := hb.trans' hg
  clear hg
  go_wp2_with (fail)
  refine (kV7 pr7 [v0, va, v1, v0] 4 #[.string ⟨#[86, 48]⟩, .string ⟨#[97]⟩, .string ⟨#[86, 49]⟩, .string ⟨#[86, 48]⟩] rfl rfl (by decide) (by decide +kernel) _).mono ?_
  rintro e w3 ⟨⟨a3, HA3, rfl⟩, hg⟩
  replace hb := hb.trans' hg
  clear hg
  have he := eql_atom a2 a3
  rw [show eqA a2 a3 = true by rw [HA2.out, HA1.out, HA3.out, live7]; exact eqA_self _] at he
  go_wp2
  go_ret
  exact ⟨rfl, hb⟩
end Go.Proofs.YtiokjjiakcbmhaaDoor
