/-
  What the law UnifyNames asks, one by one. Condition: as it says.
-/
import Derived.Test.YtkcnbdlhggoojaaDoorUnV
import Derived.Test.YtkcnbdlhggoojaaDoorUnW
import Derived.Test.YtkcnbdlhggoojaaDoorUnS
import Derived.Test.YtkcnbdlhggoojaaDoorUnL
namespace Go.Proofs.YtkcnbdlhggoojaaDoor
open Go.RowKit

def atQ (p : ByteArray) (cs : List ByteArray) : AtomD := storedD says6 p (cs.map nameD)
def prQ : ByteArray := ⟨#[113]⟩
def nA : ByteArray := ⟨#[65]⟩
def nB : ByteArray := ⟨#[66]⟩
def nC : ByteArray := ⟨#[67]⟩
def nX : ByteArray := ⟨#[88]⟩
def nY : ByteArray := ⟨#[89]⟩
def na : ByteArray := ⟨#[97]⟩
def nb : ByteArray := ⟨#[98]⟩
def nX12 : ByteArray := ⟨#[88, 35, 49, 50]⟩
def nY12 : ByteArray := ⟨#[89, 35, 49, 50]⟩
theorem kQ (p : ByteArray) (cs : List ByteArray) (n : Nat) (vs : Array Value) (hv : vs = (cs.map Value.string).toArray) (hn : cs.length = n) (h4 : cs.length ≤ 4) (hne : cs.all (fun x => decide (0 < x.size)) = true) (w : World) : Calls Tryd.prog 8 #[.string says6, .string p, .slice (some ⟨w.heap.size, 0, none⟩) n n] (w.alloc (.cells vs 9)) fun e w' => (∃ q, RowKit.Hid (q = atQ p cs) ∧ e = .returned (.agg #[.string q.says, .string q.pred, .int .i64 q.n, .bool q.t0.v, .string q.t0.name, .bool q.t1.v, .string q.t1.name, .bool q.t2.v, .string q.t2.name, .bool q.t3.v, .string q.t3.name])) ∧ Bel w w' := by
  subst hn hv
  have hl := listAt_lit w 9 (cs.map Value.string).toArray
  simp only [List.size_toArray, List.length_map] at hl
  refine (kAn_any says6 p (some ⟨w.heap.size, 0, none⟩) cs cs.length _ hl h4 (fun x hx => by simpa using List.all_eq_true.1 hne x hx)).mono ?_
  rintro e w' ⟨h, hg⟩
  exact ⟨h, (bel_alloc _ _).trans' hg⟩
theorem kQg (p : ByteArray) (cs : List ByteArray) (n : Nat) (vs : Array Value) (hv : vs = (cs.map Value.string).toArray) (hn : cs.length = n) (h4 : cs.length ≤ 4) (hne : cs.all (fun x => decide (0 < x.size)) = true) (w : World) (g : Nat) (hg : w.heap.size = g) : Calls Tryd.prog 8 #[.string says6, .string p, .slice (some ⟨g, 0, none⟩) n n] (w.alloc (.cells vs 9)) fun e w' => (∃ q, RowKit.Hid (q = atQ p cs) ∧ e = .returned (.agg #[.string q.says, .string q.pred, .int .i64 q.n, .bool q.t0.v, .string q.t0.name, .bool q.t1.v, .string q.t1.name, .bool q.t2.v, .string q.t2.name, .bool q.t3.v, .string q.t3.name])) ∧ Bel w w' := by
  subst hg
  exact kQ p cs n vs hv hn h4 hne w
theorem eqA_of {a b : AtomD} (h : eqA a b = true) : a = b := (eqA_iff _ _).1 h
theorem meetR_eq {a b m : AtomD} {is : Bool} (h1 : eqA (meetR a b).1 m = true) (h2 : (meetR a b).2 = is) : meetR a b = (m, is) := Prod.ext (eqA_of h1) h2
def lQ : List BindD := [⟨nB, ⟨true, nA⟩⟩, ⟨nC, ⟨true, nA⟩⟩]
theorem names_u : uniR (atQ pr6 [nA, nB]) (atQ pr6 [nB, nC]) = (lQ, true) := uniR_eq (by decide +kernel) (by decide +kernel)
theorem names_no : uniR (atQ pr6 [nX, nX]) (atQ pr6 [na, nb]) = ([], false) := uniR_eq (by decide +kernel) (by decide +kernel)
theorem names_q : uniR (atQ pr6 [nX]) (atQ prQ [nX]) = ([], false) := uniR_eq (by decide +kernel) (by decide +kernel)
theorem names_m : meetR (atQ pr6 [nX, nb]) (atQ pr6 [na, nY]) = (atQ pr6 [na, nb], true) := meetR_eq (by decide +kernel) (by decide +kernel)
theorem digits_12 : Lib.decDigits 12 = [49, 50] := Lib.decDigits_two (by omega) (by omega)
theorem digits_0 : Lib.decDigits 0 = [48] := Lib.decDigits_one (by omega)
theorem tag_12 : tagD 12 = ⟨#[35, 49, 50]⟩ := by unfold tagD; rw [digits_12]; decide +kernel
theorem tag_0 : tagD 0 = ⟨#[35, 48]⟩ := by unfold tagD; rw [digits_0]; decide +kernel
theorem names_r : renD (atQ pr6 [nX, nb, nY]) 12 = atQ pr6 [nX12, nb, nY12] := by
  refine eqA_of ?_
  unfold renD mapA renT
  rw [tag_12]
  decide +kernel
theorem sm_Q : ∀ t ∈ argsD (atQ pr6 [nX, nb, nY]), t.name.size ≤ 1000 := by decide +kernel
theorem marked12 (W : World) : Calls Tryd.prog 11 #[.string ⟨#[88, 35, 49, 50]⟩] W fun e w' => e = .returned (.tuple #[.string ⟨#[88]⟩, .int .i64 12, .bool true]) ∧ Bel W w' := by
  have h := Marked_yes nX 12 W (by decide) (by decide) (by omega) (itoa_small W 12 (by omega))
  rw [show (nX ++ tagD 12 : ByteArray) = ⟨#[88, 35, 49, 50]⟩ by rw [tag_12]; decide +kernel] at h
  exact h
theorem marked0 (W : World) : Calls Tryd.prog 11 #[.string ⟨#[88, 35, 49, 35, 48]⟩] W fun e w' => e = .returned (.tuple #[.string ⟨#[88, 35, 49]⟩, .int .i64 0, .bool true]) ∧ Bel W w' := by
  have h := Marked_yes ⟨#[88, 35, 49]⟩ 0 W (by decide) (by decide) (by omega) (itoa_small W 0 (by omega))
  rw [show ((⟨#[88, 35, 49]⟩ : ByteArray) ++ tagD 0) = ⟨#[88, 35, 49, 35, 48]⟩ by rw [tag_0]; decide +kernel] at h
  exact h
theorem rename12 (a : AtomD) (h : a = atQ pr6 [nX, nb, nY]) (W : World) : Calls Tryd.prog 10 #[.agg #[.string a.says, .string a.pred, .int .i64 a.n, .bool a.t0.v, .string a.t0.name, .bool a.t1.v, .string a.t1.name, .bool a.t2.v, .string a.t2.name, .bool a.t3.v, .string a.t3.name], .int .i64 12] W fun e w' => (∃ q, RowKit.Hid (q = renD a 12) ∧ e = .returned (.agg #[.string q.says, .string q.pred, .int .i64 q.n, .bool q.t0.v, .string q.t0.name, .bool q.t1.v, .string q.t1.name, .bool q.t2.v, .string q.t2.name, .bool q.t3.v, .string q.t3.name])) ∧ Bel W w' :=
  Rename_any a 12 W (by omega) (itoa_small W 12 (by omega)) (by rw [h]; exact sm_Q)
end Go.Proofs.YtkcnbdlhggoojaaDoor
