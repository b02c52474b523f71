/-
  A schema that came in: the tree that it holds; that it reads behind the call as it did before.
-/
import Derived.Test.YthlnjnoeaicjjaaDoorPTree
import Derived.Test.YthlnjnoeaicjjaaDoorPBOpenVals
import Derived.Test.YthlnjnoeaicjjaaDoorRows
namespace Go.Proofs.YthlnjnoeaicjjaaDoor
open Go.ChangeShapes Go.WideShapes Go.ChangeAt Go.RowKit
/-- Bounds of what a tree holds. -/
inductive Tr.In : Tr → Prop where
  | mk (id : Int) (nm : ByteArray) (rep kind : Int) (sub : List Tr) (hi : -9223372036854775808 ≤ id ∧ id ≤ 9223372036854775807) (hs : nm.size ≤ maxLen) (hr : -9223372036854775808 ≤ rep ∧ rep ≤ 9223372036854775807) (hk : -9223372036854775808 ≤ kind ∧ kind ≤ 9223372036854775807) (hl : sub.length ≤ maxLen)
      (each : ∀ j (h : j < sub.length), Tr.In sub[j]) : Tr.In (.node id nm rep kind sub)
instance : Inhabited Tr := ⟨.node 0 ⟨#[]⟩ 0 0 []⟩
end Go.Proofs.YthlnjnoeaicjjaaDoor
