/-
  strings.Clone answers the same bytes; nothing that was there turns.
-/
import Derived.Test.YtkcobccmifkjcaaDoorDBBase
import Derived.Lib.Strings
import Derived.Lib.BufferWrite
import Derived.Lib.UnsafeStr
import Derived.Laws.MakeOwn
namespace Go.Proofs.YtkcobccmifkjcaaDoor
open Go.RowKit
end Go.Proofs.YtkcobccmifkjcaaDoor
