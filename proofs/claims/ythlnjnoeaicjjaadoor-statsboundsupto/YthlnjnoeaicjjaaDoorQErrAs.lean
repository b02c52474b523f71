/-
  errors.As at a target of type **api.Fault, walked: an error of errors.New's make is none; a *api.Fault is one, and the target is set to it.
-/
import Derived.Test.YthlnjnoeaicjjaaDoorRows
import Derived.WalkKit
import Derived.LaidEql
import Derived.Stop.Asserts
import Derived.RowKitTokens
import Derived.Below
namespace Go.Proofs.YthlnjnoeaicjjaaDoor
open Go.RowKit Go.Extern.Stop Go.Stop Go.Extern
/-- What the variable errors.errorType holds. -/
abbrev handleV : Value := .iface 121 (.agg #[.pointer (some ⟨10, 31, none⟩)])
end Go.Proofs.YthlnjnoeaicjjaaDoor
