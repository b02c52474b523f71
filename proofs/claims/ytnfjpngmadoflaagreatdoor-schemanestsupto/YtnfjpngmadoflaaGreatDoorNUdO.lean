/-
  The reference's UnderOf; the law's isNode.
-/
import Derived.Test.YtnfjpngmadoflaaGreatDoorNBFlatL
import Derived.Test.YtnfjpngmadoflaaGreatDoorNBSBase
import Derived.Test.YtnfjpngmadoflaaGreatDoorNBSFlI
import Derived.Test.YtnfjpngmadoflaaGreatDoorNAppAny
import Derived.Test.YtnfjpngmadoflaaGreatDoorNBLfM
import Derived.Test.YtnfjpngmadoflaaGreatDoorNBSRight
import Derived.Test.YtnfjpngmadoflaaGreatDoorNWErr4
namespace Go.Proofs.YtnfjpngmadoflaaGreatDoor
open Go.RowKit
def zT : Tr := .node 0 ⟨#[]⟩ 0 0 []
theorem z_sm : zT.Sm := .mk _ _ _ _ _ (by omega) (by decide) (by decide) (fun j h => absurd h (by simp))
end Go.Proofs.YtnfjpngmadoflaaGreatDoor
