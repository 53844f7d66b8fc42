/-
  Atoms that the statements write out. Conditions: as each says.
-/
import Derived.Test.YtamghlneoglfnaaTgD
import Derived.Test.YtamghlneoglfnaaUnW
import Derived.Test.YtamghlneoglfnaaAtA
namespace Go.Proofs.Ytamghlneoglfnaa
open Go.RowKit

theorem listAt_lits (w : World) (e : TypeId) (cs : Array Value) : ListAt (w.alloc (.cells cs e)) (some ⟨w.heap.size, 0, none⟩) cs.size cs.toList := by
  refine ⟨by simp, .inr ⟨w.heap.size, 0, rfl, by simp, fun j u hu => ?_⟩⟩
  rw [Nat.zero_add]
  exact cell_of_block (heap_alloc_new w _) (by rw [← Array.getElem?_toList]; exact hu)
def says7 : ByteArray := ⟨#[97, 108, 105, 99, 101]⟩
def pr7 : ByteArray := ⟨#[112]⟩
def op7 : ByteArray := ⟨#[111, 112, 101, 110]⟩
def atV (p : ByteArray) (cs : List ByteArray) : AtomD := storedD says7 p (cs.map nameD)
def vX : ByteArray := ⟨#[88]⟩
def vY : ByteArray := ⟨#[89]⟩
def va : ByteArray := ⟨#[97]⟩
def v0 : ByteArray := ⟨#[86, 48]⟩
def v1 : ByteArray := ⟨#[86, 49]⟩
theorem kV7 (p : ByteArray) (cs : List ByteArray) (n : Nat) (vs : Array Value) (hv : vs = (cs.map Value.string).toArray) (hn : cs.length = n) (h4 : cs.length ≤ 4) (hne : cs.all (fun x => decide (0 < x.size)) = true) (w : World) : Calls Try.prog 9 #[.string says7, .string p, .slice (some ⟨w.heap.size, 0, none⟩) n n] (w.alloc (.cells vs 9)) fun e w' => (∃ q, RowKit.Hid (q = atV p cs) ∧ e = .returned (.agg #[.string q.says, .string q.pred, .int .i64 q.n, .bool q.t0.v, .string q.t0.name, .bool q.t1.v, .string q.t1.name, .bool q.t2.v, .string q.t2.name, .bool q.t3.v, .string q.t3.name])) ∧ Bel w w' := by
  subst hn hv
  have hl := listAt_lits w 9 (cs.map Value.string).toArray
  simp only [List.size_toArray, List.length_map] at hl
  refine (kAn_any says7 p (some ⟨w.heap.size, 0, none⟩) cs cs.length _ hl h4 (fun x hx => by simpa using List.all_eq_true.1 hne x hx)).mono ?_
  rintro e w' ⟨h, hg⟩
  exact ⟨h, (bel_alloc _ _).trans' hg⟩
theorem kVg (p : ByteArray) (cs : List ByteArray) (n : Nat) (vs : Array Value) (hv : vs = (cs.map Value.string).toArray) (hn : cs.length = n) (h4 : cs.length ≤ 4) (hne : cs.all (fun x => decide (0 < x.size)) = true) (w : World) (g : Nat) (hg : w.heap.size = g) : Calls Try.prog 9 #[.string says7, .string p, .slice (some ⟨g, 0, none⟩) n n] (w.alloc (.cells vs 9)) fun e w' => (∃ q, RowKit.Hid (q = atV p cs) ∧ e = .returned (.agg #[.string q.says, .string q.pred, .int .i64 q.n, .bool q.t0.v, .string q.t0.name, .bool q.t1.v, .string q.t1.name, .bool q.t2.v, .string q.t2.name, .bool q.t3.v, .string q.t3.name])) ∧ Bel w w' := by
  subst hg
  exact kV7 p cs n vs hv hn h4 hne w
theorem kV0 (p : ByteArray) (w : World) : Calls Try.prog 9 #[.string says7, .string p, .slice none 0 0] w fun e w' => (∃ q, RowKit.Hid (q = atV p []) ∧ e = .returned (.agg #[.string q.says, .string q.pred, .int .i64 q.n, .bool q.t0.v, .string q.t0.name, .bool q.t1.v, .string q.t1.name, .bool q.t2.v, .string q.t2.name, .bool q.t3.v, .string q.t3.name])) ∧ Bel w w' :=
  kAn_any says7 p none [] 0 w ⟨rfl, .inl rfl⟩ (by simp) (by simp)
theorem eqA_of7 {a b : AtomD} (h : eqA a b = true) : a = b := (eqA_iff _ _).1 h
theorem smV (cs : List ByteArray) (p : ByteArray) (hp : p.size ≤ 1000) (hl : cs.length ≤ 4) (hs : cs.all (fun x => decide (x.size ≤ 1000)) = true) : AtomSm (atV p cs) := by
  have h : ∀ i, ((cs.map nameD).getD i zeroT).name.size ≤ 1000 := fun i => by
    rw [List.getD_eq_getElem?_getD, List.getElem?_map]
    cases e : cs[i]? with
    | none => exact Nat.zero_le _
    | some x =>
      have := List.all_eq_true.1 hs x (List.mem_of_getElem? e)
      show x.size ≤ 1000
      simpa using this
  exact ⟨(by decide : says7.size ≤ 1000), hp, h 0, h 1, h 2, h 3⟩
theorem ok7 (cs : List ByteArray) (p : ByteArray) (hp : p.size ≤ 1000) (hl : cs.length ≤ 4) (hs : cs.all (fun x => decide (x.size ≤ 1000)) = true) : AtomOk (atV p cs) := by
  have h := smV cs p hp hl hs
  have k : (1000 : Nat) ≤ 9223372036854775807 := by decide
  exact ⟨Nat.le_trans h.says k, Nat.le_trans h.pred k, ⟨by show (-9223372036854775808 : Int) ≤ ((cs.map nameD).length : Int); omega, by show ((cs.map nameD).length : Int) ≤ _; rw [List.length_map]; omega⟩, Nat.le_trans h.t0 k, Nat.le_trans h.t1 k, Nat.le_trans h.t2 k, Nat.le_trans h.t3 k⟩
theorem alloc_size (w : World) (o : Obj) : (w.alloc o).heap.size = w.heap.size + 1 := by simp
/-- names in a block, in each later world -/
theorem lit_in (w W : World) (cs : List ByteArray) (vs : Array Value) (n : Nat) (hv : vs = (cs.map Value.string).toArray) (hn : cs.length = n) (hg : Bel (w.alloc (.cells vs 9)) W) (g : Nat) (hgw : w.heap.size = g) : ListAt W (some ⟨g, 0, none⟩) cs.length (cs.map Value.string) := by
  subst hgw hv
  have hl := listAt_lits w 9 (cs.map Value.string).toArray
  simp only [List.size_toArray, List.length_map] at hl
  obtain ⟨h1, h2⟩ := hl
  refine ⟨h1, h2.imp id ?_⟩
  rintro ⟨b, o, e, hb, hc⟩
  exact ⟨b, o, e, Nat.lt_of_lt_of_le hb hg.size, fun j u hj => cell_bel (hc j u hj) hg⟩
theorem kVL (p : ByteArray) (cs : List ByteArray) (n : Nat) (hn : cs.length = n) (h4 : cs.length ≤ 4) (hne : cs.all (fun x => decide (0 < x.size)) = true) (W : World) (g : Nat) (h : ListAt W (some ⟨g, 0, none⟩) cs.length (cs.map Value.string)) : Calls Try.prog 9 #[.string says7, .string p, .slice (some ⟨g, 0, none⟩) n n] W fun e w' => (∃ q, RowKit.Hid (q = atV p cs) ∧ e = .returned (.agg #[.string q.says, .string q.pred, .int .i64 q.n, .bool q.t0.v, .string q.t0.name, .bool q.t1.v, .string q.t1.name, .bool q.t2.v, .string q.t2.name, .bool q.t3.v, .string q.t3.name])) ∧ Bel W w' := by
  subst hn
  exact kAn_any says7 p (some ⟨g, 0, none⟩) cs cs.length W h h4 (fun x hx => by simpa using List.all_eq_true.1 hne x hx)
theorem light_each {l : List AtomD} {most : Int} (h : lightAs l most = true) : (l.length : Int) ≤ most ∧ ∀ x ∈ l, lightA x = true := by
  unfold lightAs at h
  rw [Bool.and_eq_true, decide_eq_true_eq] at h
  exact ⟨h.1, fun x hx => List.all_eq_true.1 h.2 x hx⟩
theorem al_own {w W : World} {q : Option Addr} {c : Nat} {l : List AtomD} (h : OA w W q c l) : AL W q c l := OwnL.slice EA h
/-- the cells of an item, in each later world -/
theorem al_later {w : World} {b o ca : Nat} {l : List AtomD} (h : AL w (some ⟨b, o, none⟩) ca l) {k : Nat} (hk : k < l.length) : ∀ W, Bel w W → W.cell? ⟨b, o + k * 11, none⟩ = some (.string l[k].says) ∧ W.cell? ⟨b, o + k * 11 + 1, none⟩ = some (.string l[k].pred) ∧ W.cell? ⟨b, o + k * 11 + 2, none⟩ = some (.int .i64 l[k].n) ∧ W.cell? ⟨b, o + k * 11 + 3, none⟩ = some (.bool l[k].t0.v) ∧ W.cell? ⟨b, o + k * 11 + 4, none⟩ = some (.string l[k].t0.name) ∧ W.cell? ⟨b, o + k * 11 + 5, none⟩ = some (.bool l[k].t1.v) ∧ W.cell? ⟨b, o + k * 11 + 6, none⟩ = some (.string l[k].t1.name) ∧ W.cell? ⟨b, o + k * 11 + 7, none⟩ = some (.bool l[k].t2.v) ∧ W.cell? ⟨b, o + k * 11 + 8, none⟩ = some (.string l[k].t2.name) ∧ W.cell? ⟨b, o + k * 11 + 9, none⟩ = some (.bool l[k].t3.v) ∧ W.cell? ⟨b, o + k * 11 + 10, none⟩ = some (.string l[k].t3.name) := fun W hg => by
  obtain ⟨b', o', e, _, hc⟩ := al_get (h.bel hg) (by omega)
  injection e with e
  injection e with e1 e2
  subst e1 e2
  exact hc k hk
theorem al_at {w : World} {A : Option Addr} {ca : Nat} {l : List AtomD} (h : AL w A ca l) {k : Nat} (hk : k < l.length) : ∃ b o, A = some ⟨b, o, none⟩ := by
  obtain ⟨b, o, e, _, _⟩ := al_get h (by omega)
  exact ⟨b, o, e⟩
end Go.Proofs.Ytamghlneoglfnaa
