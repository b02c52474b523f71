/-
  The reference's ManyError and ValuesError: what they answer.
-/
import Derived.Test.YthlnjnoeaicjjaaDoorPRefErr
import Derived.Test.YthlnjnoeaicjjaaDoorPSmall
import Derived.Test.YthlnjnoeaicjjaaDoorPPBools
import Derived.Test.YthlnjnoeaicjjaaDoorPBOpenVals
import Derived.Test.YthlnjnoeaicjjaaDoorPBPackF
namespace Go.Proofs.YthlnjnoeaicjjaaDoor
open Go.RowKit
theorem blk_other {w : World} {g k j : Nat} {o : Obj} (h : w.heap[g]? = some o) (hne : g ≠ k) (v : Value) : (w.setCell ⟨k, j, none⟩ v).heap[g]? = some o := by
  rw [Below.heap_setCell _ _ _ _ hne]; exact h
end Go.Proofs.YthlnjnoeaicjjaaDoor
