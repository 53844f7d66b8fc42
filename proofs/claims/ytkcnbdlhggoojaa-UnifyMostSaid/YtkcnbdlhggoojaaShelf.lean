/-
  No contract of the library is wanted at this seat. No condition.
-/
import Derived.Shelf.Sort.Plain
import Derived.Shelf.Slices.Turned
import Derived.Shelf.Slices.In.SortNone
import Derived.Test.YtkcnbdlhggoojaaProg
