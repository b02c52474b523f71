/-
  A slice of ints that came in: what it holds; that it reads behind the call as it did before.
-/
import Derived.Test.YthlnjnoeaicjjaaDoorQBPackF
import Derived.ChangeSlices
import Derived.Carry
import Derived.OpenShut
import Derived.ProofKit
namespace Go.Proofs.YthlnjnoeaicjjaaDoor
open Go.ChangeShapes Go.WideShapes Go.ChangeAt Go.RowKit
theorem Tryd.cells3 : Tryd.prog.cellsOf 3 = 1 := by kernel_rfl
end Go.Proofs.YthlnjnoeaicjjaaDoor
