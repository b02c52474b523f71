/-
  The reference's Bare, Fine and BitsError, and the law's faulted: what they answer.
-/
import Derived.Test.YteonbmaokphleaaGreatDoorHBPackF
import Derived.Test.YteonbmaokphleaaGreatDoorHBCode
import Derived.Laws.CopyOwn
namespace Go.Proofs.YteonbmaokphleaaGreatDoor
open Go.RowKit
abbrev rfl2 (c i : Int) : Array Value := #[.int .i64 c, .int .i64 i]
theorem row_setCell {w : World} {g j : Nat} {cs : Array Value} {t : TypeId} (h : w.heap[g]? = some (.cells cs t (0, 0))) (v : Value) : (w.setCell ⟨g, j, none⟩ v).heap[g]? = some (.cells (cs.setIfInBounds j v) t (0, 0)) := by
 simp [World.setCell, Array.getElem?_modify, h]
end Go.Proofs.YteonbmaokphleaaGreatDoor
