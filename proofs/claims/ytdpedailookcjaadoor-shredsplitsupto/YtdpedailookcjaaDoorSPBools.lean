/-
  enc.plainBools and enc.Plain: the bytes of values.
-/
import Derived.Test.YtdpedailookcjaaDoorSBVal
import Derived.Test.YtdpedailookcjaaDoorSBMath
import Derived.Laws.MakeOwn
import Derived.Test.YtdpedailookcjaaDoorSOwn
import Derived.Test.YtdpedailookcjaaDoorSBPackF
import Derived.Test.YtdpedailookcjaaDoorSRd
import Derived.Test.YtdpedailookcjaaDoorSBase
import Derived.Lib.Strings
import Derived.Lib.BufferWrite
import Derived.Lib.UnsafeStr
import Derived.Laws.DeepNot64
namespace Go.Proofs.YtdpedailookcjaaDoor
open Go.RowKit
theorem GRow.keep {f : Nat → Value} {k g : Nat} {w wr w' : World} {i : Nat} (h : GRow f k g w wr i) (hg : g < wr.heap.size) (hb : Below wr.heap.size wr w') : GRow f k g w w' i :=
  ⟨fun j hj => (hb.cell hg).trans (h.done j hj), fun j hj => (h.any j hj).imp fun _ hv => (hb.cell hg).trans hv, fun j hj => (hb.frozen hg).trans (h.froz j hj), h.old.trans (hb.mono h.old.size)⟩
end Go.Proofs.YtdpedailookcjaaDoor
