/-
  The reference's SameInts of two slices, wherever they lie.
-/
import Derived.Test.YtkcobccmifkjcaaDoorCSameInts
import Derived.Test.YtkcobccmifkjcaaDoorCBPack
namespace Go.Proofs.YtkcobccmifkjcaaDoor
open Go.RowKit
end Go.Proofs.YtkcobccmifkjcaaDoor
