/-
  schema.idsAreRight: exact.
-/
import Derived.Test.YthlnjnoeaicjjaaDoorPBOwnN
import Derived.Test.YthlnjnoeaicjjaaDoorPAppWhere
import Derived.Maps.Own
import Derived.Maps.OwnOps
import Derived.Maps.OwnSet
import Derived.Maps.Views
namespace Go.Proofs.YthlnjnoeaicjjaaDoor
open Go.RowKit Go.Maps
def ilit (i : Int) : Lit := .int .i64 i
/-- The set that holds these numbers. -/
def idS (acc : List Int) : DataW Unit := setOf (.agg []) (acc.map ilit)
/-- A map that holds these numbers. -/
def SetI (mb : Nat) (acc : List Int) (W : World) : Prop := acc.length ≤ 1000000 ∧ W.ownsMap Tryd.prog 3 (unitElem (H := Unit)) mb acc.length (idS acc)
theorem SetI.keep {mb : Nat} {acc : List Int} {W w' : World} (h : SetI mb acc W) (hb : Below W.heap.size W w') : SetI mb acc w' := by
  obtain ⟨h1, es, clock, h2, h3⟩ := h
  exact ⟨h1, es, clock, (hb.block mb (lt_of_block h2)).trans h2, h3⟩
end Go.Proofs.YthlnjnoeaicjjaaDoor
