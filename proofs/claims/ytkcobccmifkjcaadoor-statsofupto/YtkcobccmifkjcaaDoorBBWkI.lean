/-
  The walk through a schema, with one visitor: it answers what the list's walk answers, if the visitor does.
  The walk through a schema, with one visitor: it answers what the list's walk answers, if the visitor does.
-/
import Derived.Test.YtkcobccmifkjcaaDoorBBWalkT
namespace Go.Proofs.YtkcobccmifkjcaaDoor
open Go.RowKit
end Go.Proofs.YtkcobccmifkjcaaDoor

namespace Go.Proofs.YtkcobccmifkjcaaDoor
open Go.RowKit
end Go.Proofs.YtkcobccmifkjcaaDoor
