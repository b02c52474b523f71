/-
  The reference's ManyError and ValuesError: what they answer.
-/
import Derived.Test.YthlnjnoeaicjjaaDoorQRefErr
import Derived.Test.YthlnjnoeaicjjaaDoorQSmall
import Derived.Test.YthlnjnoeaicjjaaDoorQPBools
import Derived.Test.YthlnjnoeaicjjaaDoorQBOpenVals
import Derived.Test.YthlnjnoeaicjjaaDoorQBPackF
namespace Go.Proofs.YthlnjnoeaicjjaaDoor
open Go.RowKit
theorem blk_other {w : World} {g k j : Nat} {o : Obj} (h : w.heap[g]? = some o) (hne : g ≠ k) (v : Value) : (w.setCell ⟨k, j, none⟩ v).heap[g]? = some o := by
  rw [Below.heap_setCell _ _ _ _ hne]; exact h
end Go.Proofs.YthlnjnoeaicjjaaDoor
