/-
  The walks of package spell's small functions, in plain mathematics: which bytes and which strings they allow. No condition.
-/
import Derived.Test.YtkcnbdlhggoojaaDoorRows
import Derived.WalkKit
import Derived.WalkSpells
import Derived.WalkLawsBesides
import Derived.Lib.Hide
namespace Go.Proofs.YtkcnbdlhggoojaaDoor
open Go.RowKit

def lowB (c : UInt8) : Bool := decide (97 ≤ (c.toNat : Int)) && decide ((c.toNat : Int) ≤ 122)
def uppB (c : UInt8) : Bool := decide (65 ≤ (c.toNat : Int)) && decide ((c.toNat : Int) ≤ 90)
def digB (c : UInt8) : Bool := decide (48 ≤ (c.toNat : Int)) && decide ((c.toNat : Int) ≤ 57)
def smaB (c : UInt8) : Bool := lowB c || digB c
def latB (m : Bool) (c : UInt8) : Bool := smaB c || decide ((c.toNat : Int) = 95) || (m && uppB c)

end Go.Proofs.YtkcnbdlhggoojaaDoor
