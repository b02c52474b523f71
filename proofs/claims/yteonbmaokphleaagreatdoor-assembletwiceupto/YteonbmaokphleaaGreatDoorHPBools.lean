/-
  enc.plainBools and enc.Plain: the bytes of values.
-/
import Derived.Test.YteonbmaokphleaaGreatDoorHBVal
import Derived.Test.YteonbmaokphleaaGreatDoorHBMath
import Derived.Laws.MakeOwn
import Derived.Test.YteonbmaokphleaaGreatDoorHOwn
import Derived.Test.YteonbmaokphleaaGreatDoorHBPackF
import Derived.Test.YteonbmaokphleaaGreatDoorHBase
import Derived.Lib.Strings
import Derived.Lib.BufferWrite
import Derived.Lib.UnsafeStr
import Derived.Laws.DeepNot64
namespace Go.Proofs.YteonbmaokphleaaGreatDoor
open Go.RowKit
theorem GRow.keep {f : Nat → Value} {k g : Nat} {w wr w' : World} {i : Nat} (h : GRow f k g w wr i) (hg : g < wr.heap.size) (hb : Below wr.heap.size wr w') : GRow f k g w w' i :=
 ⟨fun j hj => (hb.cell hg).trans (h.done j hj), fun j hj => (h.any j hj).imp fun _ hv => (hb.cell hg).trans hv, fun j hj => (hb.frozen hg).trans (h.froz j hj), h.old.trans (hb.mono h.old.size)⟩
end Go.Proofs.YteonbmaokphleaaGreatDoor
