/-
  The reference's SameInts of two slices, wherever they lie.
-/
import Derived.Test.YtkcobccmifkjcaaDoorBSameInts
import Derived.Test.YtkcobccmifkjcaaDoorBBRefBits
namespace Go.Proofs.YtkcobccmifkjcaaDoor
open Go.RowKit
end Go.Proofs.YtkcobccmifkjcaaDoor
