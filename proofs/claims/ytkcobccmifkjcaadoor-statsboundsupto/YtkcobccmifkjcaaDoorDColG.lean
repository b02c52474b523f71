/-
  The reference's SameColumn.
-/
import Derived.Test.YtkcobccmifkjcaaDoorDBColE
import Derived.Test.YtkcobccmifkjcaaDoorDSameLies
import Derived.Deep.RegionHeld3
namespace Go.Proofs.YtkcobccmifkjcaaDoor
open Go.RowKit
end Go.Proofs.YtkcobccmifkjcaaDoor
