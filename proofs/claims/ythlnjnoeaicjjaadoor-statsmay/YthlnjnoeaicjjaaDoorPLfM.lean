/-
  A leaf of a schema as it is told.
-/
import Derived.Test.YthlnjnoeaicjjaaDoorPBOwnN
import Derived.Test.YthlnjnoeaicjjaaDoorPAppWhere
import Derived.Test.YthlnjnoeaicjjaaDoorPBPackF
namespace Go.Proofs.YthlnjnoeaicjjaaDoor
open Go.RowKit
def lvR (l : List Tr) : Nat := (l.filter fun t => decide (t.rep = 3)).length
def lvD (l : List Tr) : Nat := (l.filter fun t => decide (t.rep ≠ 1)).length
theorem own_type {W : World} {N e s n : Nat} {v : Value} {xs : List Value} (h : W.ownsRow N e s v n xs) {k : Nat} {cs : Array Value} {e' : TypeId} {z : Nat × Nat} (hk : W.heap[k]? = some (.cells cs e' z)) (hne : e ≠ e') : some k ≠ v.ownBlock := fun e2 => by
  obtain ⟨_, _, cs', h3⟩ := own_block h e2.symm
  rw [h3] at hk
  injection hk with hk
  injection hk with _ hk _
  exact hne hk
end Go.Proofs.YthlnjnoeaicjjaaDoor
