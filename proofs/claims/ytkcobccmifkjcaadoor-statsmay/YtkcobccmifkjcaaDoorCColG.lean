/-
  The reference's SameColumn.
-/
import Derived.Test.YtkcobccmifkjcaaDoorCBColE
import Derived.Test.YtkcobccmifkjcaaDoorCSameLies
import Derived.Deep.RegionHeld3
namespace Go.Proofs.YtkcobccmifkjcaaDoor
open Go.RowKit
end Go.Proofs.YtkcobccmifkjcaaDoor
