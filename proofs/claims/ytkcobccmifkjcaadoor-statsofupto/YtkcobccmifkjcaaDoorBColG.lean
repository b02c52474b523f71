/-
  The reference's SameColumn.
-/
import Derived.Test.YtkcobccmifkjcaaDoorBBColE
import Derived.Test.YtkcobccmifkjcaaDoorBSameLies
import Derived.Deep.RegionHeld3
namespace Go.Proofs.YtkcobccmifkjcaaDoor
open Go.RowKit
end Go.Proofs.YtkcobccmifkjcaaDoor
