/-
  What is known of values, as it came in.
-/
import Derived.Test.YthlnjnoeaicjjaaDoorQBStBase
import Derived.Test.YthlnjnoeaicjjaaDoorQBOpenVals
import Derived.ChangeArms
namespace Go.Proofs.YthlnjnoeaicjjaaDoor
open Go.ChangeShapes Go.WideShapes Go.ChangeAt Go.RowKit
/-- Bounds of what came in. -/
def St.In (s : St) : Prop := (-9223372036854775808 ≤ s.e ∧ s.e ≤ 9223372036854775807) ∧ (-9223372036854775808 ≤ s.u ∧ s.u ≤ 9223372036854775807) ∧ s.mn.In ∧ s.mx.In
theorem St.In.low {s : St} (h : s.In) : s.Low := ⟨h.2.2.1.2.1.1, h.2.2.2.2.1.1⟩
end Go.Proofs.YthlnjnoeaicjjaaDoor
