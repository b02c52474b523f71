/-
  The reference's SameColumn.
-/
import Derived.Test.YtkcobccmifkjcaaDoorABColE
import Derived.Test.YtkcobccmifkjcaaDoorASameLies
import Derived.Deep.RegionHeld3
namespace Go.Proofs.YtkcobccmifkjcaaDoor
open Go.RowKit
end Go.Proofs.YtkcobccmifkjcaaDoor
