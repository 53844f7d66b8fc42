/-
  The law SubstParts for every input. Conditions: what came in lies as its parameters' types say.
-/
import Derived.Test.YtlbollmmomheoaaSbP1
namespace Go.Proofs.Ytlbollmmomheoaa
open Go.RowKit

theorem wrap_small (n : Nat) (h : n ≤ 1000) : IntKind.i64.wrap (n : Int) = n := by
  have h2 := wrap_i64_ediv (n : Int) 1 (by omega) (by omega) (by omega)
  rwa [Int.ediv_one] at h2
theorem Restrict_own (A : Option Addr) (l : List BindD) (n ca : Nat) (hn : l.length = n) (V : Option Addr) (vs : List ByteArray) (nv cv : Nat) (hnv : vs.length = nv) (w : World) (hL : BL w A ca l) (hl : l.length ≤ 20) (hV : SI w V vs) (hv : vs.length ≤ 20) :
    Calls Try.prog 19 #[.slice A n ca, .slice V nv cv] w fun e w' => (∃ q c out, RowKit.Hid (out = restD l vs) ∧ RowKit.Hid (OB w w' q c out) ∧ e = .returned (.slice q out.length c)) ∧ Bel w w' :=
  Restrict_any A l n ca hn V vs nv cv hnv w hL (by omega) hV (by omega)

end Go.Proofs.Ytlbollmmomheoaa
