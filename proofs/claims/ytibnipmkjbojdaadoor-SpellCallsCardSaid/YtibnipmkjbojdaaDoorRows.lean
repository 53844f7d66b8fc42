/-
  NARROWER THAN 'FOR EVERY INPUT', by the rows' own cells (each row's printed sentence says how): SpellNames: laid · SpellCalls: laid · SpellKinds: laid · SpellJoins: laid · SpellLengths: laid.
  DERIVED. THE GIVEN ROWS OF THIS SEAT. 5 by the template 'for every input the law returns true; each argument reads behind the call as it read before'; 0 by the template 'total and deterministic' (their statements: YtibnipmkjbojdaaDoorTotals.lean).
  GIVEN WITH THE SEED: the statements are not yours to turn. If you find one false, say at which input.
  Laid BY PROGRAM, IN A SANDBOX (cutbox-rows.mjs): the forced cells as the released guide's own fill.sh prints them over the translation 436bdf6fb1224a44… (all of the seat's roots in one cut). By AI agents, Wed Nov 11 2026. No macro, syntax, notation, axiom, sorry.
-/
import Derived.Test.YtibnipmkjbojdaaDoorChecked
import GoSem.PinnedTables
import GoSem.Claim
import GoSem.ClaimJoined
import GoSem.ClaimMapViews
import Derived.JoinedTies
import Derived.KernelRfl
namespace Go.Proofs.YtibnipmkjbojdaaDoor
/- THE CELL 'sum', in the pinned program and in every row, IS THE sha256 OF THE DUMP (.gsa) THAT YtibnipmkjbojdaaDoorProg.lean LOADS. Nothing in Lean hashes anything: it is a label: what it is worth is what the hold of that sum in a sandbox is worth. -/
noncomputable def Tryd.pinned : Pinned := { name := "ytibnipmkjbojdaadoor", sum := "436bdf6fb1224a44f5e81199a9491f73bd44e2c9219a4ceccd28ec62ef0f178d", checked := Tryd.checked }
namespace Rows
def none {H : Type} : Left H := { results := [], args := [] }

/- WHAT THE LISTED PACKAGE-LEVEL VARIABLES READ AS WHEN THE CALL BEGINS. Each datum BY PROGRAM (the guide's laid-datum.mjs) off the statement by which the dump's own 'gosem.cut.vars' lays the variable. In a bare row this is a premise. The card (YtibnipmkjbojdaaDoorCards.lean) ties it to the program's text. -/
def laid_unicode_utf8_acceptRanges {H : Type} : DataW H := .agg [.agg [.lit (.int .u8 128), .lit (.int .u8 191)], .agg [.lit (.int .u8 160), .lit (.int .u8 191)], .agg [.lit (.int .u8 128), .lit (.int .u8 159)], .agg [.lit (.int .u8 144), .lit (.int .u8 191)], .agg [.lit (.int .u8 128), .lit (.int .u8 143)], .agg [.lit (.int .u8 0), .lit (.int .u8 0)], .agg [.lit (.int .u8 0), .lit (.int .u8 0)], .agg [.lit (.int .u8 0), .lit (.int .u8 0)], .agg [.lit (.int .u8 0), .lit (.int .u8 0)], .agg [.lit (.int .u8 0), .lit (.int .u8 0)], .agg [.lit (.int .u8 0), .lit (.int .u8 0)], .agg [.lit (.int .u8 0), .lit (.int .u8 0)], .agg [.lit (.int .u8 0), .lit (.int .u8 0)], .agg [.lit (.int .u8 0), .lit (.int .u8 0)], .agg [.lit (.int .u8 0), .lit (.int .u8 0)], .agg [.lit (.int .u8 0), .lit (.int .u8 0)]]
/-- One of Go's own tables, pinned by name: the form's constant. -/
def laid_unicode_utf8_first : DataW Unit := Go.Pinned.utf8First

/-- 'vouchsafelaw01.SpellNames': WHATEVER THE INPUT: true; the input reads as it did. -/
def spellNamesSpec : ChangeSpec := { name := "spellNames", fn := fun _ => fun
  | [] => { results := [.lit (.bool true)], args := [] }
  | _ => none }
def spellNamesRow : OpenClaim := { program := "ytibnipmkjbojdaadoor", sum := "436bdf6fb1224a44f5e81199a9491f73bd44e2c9219a4ceccd28ec62ef0f178d", func := "vouchsafe/vouchsafelaw01.SpellNames", spec := "spellNames", inPlace := ["internal/bytealg.CountString", "internal/bytealg.IndexByteString", "internal/bytealg.IndexString"], unfollowed := true, recurses := true, named := ["unicode/utf8.first", "unicode/utf8.acceptRanges", "internal/bytealg.MaxLen"], apart := false, laid := [("unicode/utf8.acceptRanges", laid_unicode_utf8_acceptRanges), ("unicode/utf8.first", laid_unicode_utf8_first)] }
def SpellNamesSaid : Prop := spellNamesRow.holds Tryd.pinned (OpenSpec.ofChange spellNamesSpec)

/-- ITS FALSE NEIGHBOUR: 'it returns false'. Refute it at one input. -/
def spellNamesWrong : ChangeSpec := { name := "spellNames", fn := fun _ => fun
  | [] => { results := [.lit (.bool false)], args := [] }
  | _ => none }
def SpellNamesWrongFalsely : Prop := spellNamesRow.holds Tryd.pinned (OpenSpec.ofChange spellNamesWrong)

/-- 'vouchsafelaw01.SpellCalls': WHATEVER THE INPUT: true; the input reads as it did. -/
def spellCallsSpec : ChangeSpec := { name := "spellCalls", fn := fun _ => fun
  | [d] => { results := [.lit (.bool true)], args := [d] }
  | _ => none }
def spellCallsRow : OpenClaim := { program := "ytibnipmkjbojdaadoor", sum := "436bdf6fb1224a44f5e81199a9491f73bd44e2c9219a4ceccd28ec62ef0f178d", func := "vouchsafe/vouchsafelaw01.SpellCalls", spec := "spellCalls", inPlace := ["internal/bytealg.CountString", "internal/bytealg.IndexByteString", "internal/bytealg.IndexString"], unfollowed := true, recurses := true, named := ["unicode/utf8.first", "unicode/utf8.acceptRanges", "internal/bytealg.MaxLen"], apart := false, laid := [("unicode/utf8.acceptRanges", laid_unicode_utf8_acceptRanges), ("unicode/utf8.first", laid_unicode_utf8_first)] }
def SpellCallsSaid : Prop := spellCallsRow.holds Tryd.pinned (OpenSpec.ofChange spellCallsSpec)

/-- ITS FALSE NEIGHBOUR: 'it returns false'. Refute it at one input. -/
def spellCallsWrong : ChangeSpec := { name := "spellCalls", fn := fun _ => fun
  | [d] => { results := [.lit (.bool false)], args := [d] }
  | _ => none }
def SpellCallsWrongFalsely : Prop := spellCallsRow.holds Tryd.pinned (OpenSpec.ofChange spellCallsWrong)

/-- 'vouchsafelaw01.SpellKinds': WHATEVER THE INPUT: true; the input reads as it did. -/
def spellKindsSpec : ChangeSpec := { name := "spellKinds", fn := fun _ => fun
  | [d] => { results := [.lit (.bool true)], args := [d] }
  | _ => none }
def spellKindsRow : OpenClaim := { program := "ytibnipmkjbojdaadoor", sum := "436bdf6fb1224a44f5e81199a9491f73bd44e2c9219a4ceccd28ec62ef0f178d", func := "vouchsafe/vouchsafelaw01.SpellKinds", spec := "spellKinds", inPlace := ["internal/bytealg.CountString", "internal/bytealg.IndexByteString", "internal/bytealg.IndexString"], unfollowed := true, recurses := true, named := ["unicode/utf8.first", "unicode/utf8.acceptRanges", "internal/bytealg.MaxLen"], apart := false, laid := [("unicode/utf8.acceptRanges", laid_unicode_utf8_acceptRanges), ("unicode/utf8.first", laid_unicode_utf8_first)] }
def SpellKindsSaid : Prop := spellKindsRow.holds Tryd.pinned (OpenSpec.ofChange spellKindsSpec)

/-- ITS FALSE NEIGHBOUR: 'it returns false'. Refute it at one input. -/
def spellKindsWrong : ChangeSpec := { name := "spellKinds", fn := fun _ => fun
  | [d] => { results := [.lit (.bool false)], args := [d] }
  | _ => none }
def SpellKindsWrongFalsely : Prop := spellKindsRow.holds Tryd.pinned (OpenSpec.ofChange spellKindsWrong)

/-- 'vouchsafelaw01.SpellJoins': WHATEVER THE INPUT: true; the input reads as it did. -/
def spellJoinsSpec : ChangeSpec := { name := "spellJoins", fn := fun _ => fun
  | [d1, d2] => { results := [.lit (.bool true)], args := [d1, d2] }
  | _ => none }
def spellJoinsRow : OpenClaim := { program := "ytibnipmkjbojdaadoor", sum := "436bdf6fb1224a44f5e81199a9491f73bd44e2c9219a4ceccd28ec62ef0f178d", func := "vouchsafe/vouchsafelaw01.SpellJoins", spec := "spellJoins", inPlace := ["internal/bytealg.CountString", "internal/bytealg.IndexByteString", "internal/bytealg.IndexString"], unfollowed := true, recurses := true, named := ["unicode/utf8.first", "unicode/utf8.acceptRanges", "internal/bytealg.MaxLen"], apart := false, laid := [("unicode/utf8.acceptRanges", laid_unicode_utf8_acceptRanges), ("unicode/utf8.first", laid_unicode_utf8_first)] }
def SpellJoinsSaid : Prop := spellJoinsRow.holds Tryd.pinned (OpenSpec.ofChange spellJoinsSpec)

/-- ITS FALSE NEIGHBOUR: 'it returns false'. Refute it at one input. -/
def spellJoinsWrong : ChangeSpec := { name := "spellJoins", fn := fun _ => fun
  | [d1, d2] => { results := [.lit (.bool false)], args := [d1, d2] }
  | _ => none }
def SpellJoinsWrongFalsely : Prop := spellJoinsRow.holds Tryd.pinned (OpenSpec.ofChange spellJoinsWrong)

/-- 'vouchsafelaw01.SpellLengths': WHATEVER THE INPUT: true; the input reads as it did. -/
def spellLengthsSpec : ChangeSpec := { name := "spellLengths", fn := fun _ => fun
  | [d1, d2] => { results := [.lit (.bool true)], args := [d1, d2] }
  | _ => none }
def spellLengthsRow : OpenClaim := { program := "ytibnipmkjbojdaadoor", sum := "436bdf6fb1224a44f5e81199a9491f73bd44e2c9219a4ceccd28ec62ef0f178d", func := "vouchsafe/vouchsafelaw01.SpellLengths", spec := "spellLengths", inPlace := ["internal/bytealg.CountString", "internal/bytealg.IndexByteString", "internal/bytealg.IndexString"], unfollowed := true, recurses := true, named := ["unicode/utf8.first", "unicode/utf8.acceptRanges", "internal/bytealg.MaxLen"], apart := false, laid := [("unicode/utf8.acceptRanges", laid_unicode_utf8_acceptRanges), ("unicode/utf8.first", laid_unicode_utf8_first)] }
def SpellLengthsSaid : Prop := spellLengthsRow.holds Tryd.pinned (OpenSpec.ofChange spellLengthsSpec)

/-- ITS FALSE NEIGHBOUR: 'it returns false'. Refute it at one input. -/
def spellLengthsWrong : ChangeSpec := { name := "spellLengths", fn := fun _ => fun
  | [d1, d2] => { results := [.lit (.bool false)], args := [d1, d2] }
  | _ => none }
def SpellLengthsWrongFalsely : Prop := spellLengthsRow.holds Tryd.pinned (OpenSpec.ofChange spellLengthsWrong)

/- THE SECOND FORM. 'bulk': how many values and letters a reading holds, each counted each time it is reached (what is shared counts as often as it is met; a slice's spare places count too). A statement '..UptoSaid' is the law's where the arguments, and the package variables that the reading takes, are together of bulk at most 1048576: NARROWER than '..Said'. Prove '..Said' where nothing that the law and all that it calls make is longer than what came in: it says more and counts as full. Else prove '..UptoSaid'. A law counts once. -/
mutual
def uptoBulk {H : Type} : DataW H → Nat
  | .lit (.string bytes) => bytes.length + 1
  | .lit _ => 1
  | .nil => 1
  | .ptr d => uptoBulk d + 1
  | .slice elems spare => uptoBulkAll elems + uptoBulkAll spare + 1
  | .agg parts => uptoBulkAll parts + 1
  | .iface _ d => uptoBulk d + 1
  | .map entries => uptoBulkEntries entries + 1
  | .held _ => 1
def uptoBulkAll {H : Type} : List (DataW H) → Nat
  | [] => 0
  | d :: r => uptoBulk d + uptoBulkAll r
def uptoBulkEntries {H : Type} : List (Lit × DataW H) → Nat
  | [] => 0
  | x :: r => uptoBulkEntry x + uptoBulkEntries r
def uptoBulkEntry {H : Type} : Lit × DataW H → Nat
  | (.string bytes, d) => bytes.length + uptoBulk d + 1
  | (_, d) => uptoBulk d + 1
 end
def uptoSmall : (H : Type) → List (DataW H) → Bool := fun _ ds => decide (uptoBulkAll ds ≤ 1048576)
def OpenSpec.upto (s : _root_.Go.ChangeSpec) : _root_.Go.OpenSpec := { _root_.Go.OpenSpec.ofChange s with cond := some uptoSmall }

/-- 'vouchsafelaw01.SpellNames', WHERE WHAT IT READS IS OF BULK AT MOST 1048576: true; the input reads as it did. -/
def spellNamesUptoRow : OpenClaim := { program := "ytibnipmkjbojdaadoor", sum := "436bdf6fb1224a44f5e81199a9491f73bd44e2c9219a4ceccd28ec62ef0f178d", func := "vouchsafe/vouchsafelaw01.SpellNames", spec := "spellNames", inPlace := ["internal/bytealg.CountString", "internal/bytealg.IndexByteString", "internal/bytealg.IndexString"], unfollowed := true, recurses := true, named := ["unicode/utf8.first", "unicode/utf8.acceptRanges", "internal/bytealg.MaxLen"], apart := false, laid := [("unicode/utf8.acceptRanges", laid_unicode_utf8_acceptRanges), ("unicode/utf8.first", laid_unicode_utf8_first)], narrowed := true }
def SpellNamesUptoSaid : Prop := spellNamesUptoRow.holds Tryd.pinned (OpenSpec.upto spellNamesSpec)

/-- 'vouchsafelaw01.SpellCalls', WHERE WHAT IT READS IS OF BULK AT MOST 1048576: true; the input reads as it did. -/
def spellCallsUptoRow : OpenClaim := { program := "ytibnipmkjbojdaadoor", sum := "436bdf6fb1224a44f5e81199a9491f73bd44e2c9219a4ceccd28ec62ef0f178d", func := "vouchsafe/vouchsafelaw01.SpellCalls", spec := "spellCalls", inPlace := ["internal/bytealg.CountString", "internal/bytealg.IndexByteString", "internal/bytealg.IndexString"], unfollowed := true, recurses := true, named := ["unicode/utf8.first", "unicode/utf8.acceptRanges", "internal/bytealg.MaxLen"], apart := false, laid := [("unicode/utf8.acceptRanges", laid_unicode_utf8_acceptRanges), ("unicode/utf8.first", laid_unicode_utf8_first)], narrowed := true }
def SpellCallsUptoSaid : Prop := spellCallsUptoRow.holds Tryd.pinned (OpenSpec.upto spellCallsSpec)

/-- 'vouchsafelaw01.SpellKinds', WHERE WHAT IT READS IS OF BULK AT MOST 1048576: true; the input reads as it did. -/
def spellKindsUptoRow : OpenClaim := { program := "ytibnipmkjbojdaadoor", sum := "436bdf6fb1224a44f5e81199a9491f73bd44e2c9219a4ceccd28ec62ef0f178d", func := "vouchsafe/vouchsafelaw01.SpellKinds", spec := "spellKinds", inPlace := ["internal/bytealg.CountString", "internal/bytealg.IndexByteString", "internal/bytealg.IndexString"], unfollowed := true, recurses := true, named := ["unicode/utf8.first", "unicode/utf8.acceptRanges", "internal/bytealg.MaxLen"], apart := false, laid := [("unicode/utf8.acceptRanges", laid_unicode_utf8_acceptRanges), ("unicode/utf8.first", laid_unicode_utf8_first)], narrowed := true }
def SpellKindsUptoSaid : Prop := spellKindsUptoRow.holds Tryd.pinned (OpenSpec.upto spellKindsSpec)

/-- 'vouchsafelaw01.SpellJoins', WHERE WHAT IT READS IS OF BULK AT MOST 1048576: true; the input reads as it did. -/
def spellJoinsUptoRow : OpenClaim := { program := "ytibnipmkjbojdaadoor", sum := "436bdf6fb1224a44f5e81199a9491f73bd44e2c9219a4ceccd28ec62ef0f178d", func := "vouchsafe/vouchsafelaw01.SpellJoins", spec := "spellJoins", inPlace := ["internal/bytealg.CountString", "internal/bytealg.IndexByteString", "internal/bytealg.IndexString"], unfollowed := true, recurses := true, named := ["unicode/utf8.first", "unicode/utf8.acceptRanges", "internal/bytealg.MaxLen"], apart := false, laid := [("unicode/utf8.acceptRanges", laid_unicode_utf8_acceptRanges), ("unicode/utf8.first", laid_unicode_utf8_first)], narrowed := true }
def SpellJoinsUptoSaid : Prop := spellJoinsUptoRow.holds Tryd.pinned (OpenSpec.upto spellJoinsSpec)

/-- 'vouchsafelaw01.SpellLengths', WHERE WHAT IT READS IS OF BULK AT MOST 1048576: true; the input reads as it did. -/
def spellLengthsUptoRow : OpenClaim := { program := "ytibnipmkjbojdaadoor", sum := "436bdf6fb1224a44f5e81199a9491f73bd44e2c9219a4ceccd28ec62ef0f178d", func := "vouchsafe/vouchsafelaw01.SpellLengths", spec := "spellLengths", inPlace := ["internal/bytealg.CountString", "internal/bytealg.IndexByteString", "internal/bytealg.IndexString"], unfollowed := true, recurses := true, named := ["unicode/utf8.first", "unicode/utf8.acceptRanges", "internal/bytealg.MaxLen"], apart := false, laid := [("unicode/utf8.acceptRanges", laid_unicode_utf8_acceptRanges), ("unicode/utf8.first", laid_unicode_utf8_first)], narrowed := true }
def SpellLengthsUptoSaid : Prop := spellLengthsUptoRow.holds Tryd.pinned (OpenSpec.upto spellLengthsSpec)

end Rows
end Go.Proofs.YtibnipmkjbojdaaDoor
