/-
  The reference's SameInts of two slices, wherever they lie.
-/
import Derived.Test.YtkcobccmifkjcaaDoorASameInts
import Derived.Test.YtkcobccmifkjcaaDoorABRefBits
namespace Go.Proofs.YtkcobccmifkjcaaDoor
open Go.RowKit
end Go.Proofs.YtkcobccmifkjcaaDoor
