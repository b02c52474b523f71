/-
  errors.As at a target of type **api.Fault, walked: an error of errors.New's make is none; a *api.Fault is one, and the target is set to it.
-/
import Derived.Test.YtbicfjimlpdnkaaGreatDoorRows
import Derived.WalkKit
import Derived.LaidEql
import Derived.Stop.Asserts
import Derived.RowKitTokens
import Derived.Below
namespace Go.Proofs.YtbicfjimlpdnkaaGreatDoor
open Go.RowKit Go.Extern.Stop Go.Stop Go.Extern
end Go.Proofs.YtbicfjimlpdnkaaGreatDoor
