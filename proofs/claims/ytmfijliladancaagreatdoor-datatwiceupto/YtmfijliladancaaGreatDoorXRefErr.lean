/-
  The reference's Bare, Fine and BitsError, and the law's faulted: what they answer.
-/
import Derived.Test.YtmfijliladancaaGreatDoorXRefBits
import Derived.Test.YtmfijliladancaaGreatDoorXCode
import Derived.Laws.CopyOwn
namespace Go.Proofs.YtmfijliladancaaGreatDoor
open Go.RowKit
theorem row_setCell {w : World} {g j : Nat} {cs : Array Value} {t : TypeId} (h : w.heap[g]? = some (.cells cs t (0, 0))) (v : Value) : (w.setCell ⟨g, j, none⟩ v).heap[g]? = some (.cells (cs.setIfInBounds j v) t (0, 0)) := by
  simp [World.setCell, Array.getElem?_modify, h]
end Go.Proofs.YtmfijliladancaaGreatDoor
