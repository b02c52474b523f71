/-
  The reference's SameInts of two slices, wherever they lie.
-/
import Derived.Test.YtkcobccmifkjcaaDoorDSameInts
import Derived.Test.YtkcobccmifkjcaaDoorDBPack
namespace Go.Proofs.YtkcobccmifkjcaaDoor
open Go.RowKit
end Go.Proofs.YtkcobccmifkjcaaDoor
