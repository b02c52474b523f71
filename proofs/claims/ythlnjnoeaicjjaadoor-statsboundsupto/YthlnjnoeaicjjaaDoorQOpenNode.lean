/-
  A schema that came in: the tree that it holds; that it reads behind the call as it did before.
-/
import Derived.Test.YthlnjnoeaicjjaaDoorQTree
import Derived.Test.YthlnjnoeaicjjaaDoorQBOpenVals
import Derived.Test.YthlnjnoeaicjjaaDoorRows
namespace Go.Proofs.YthlnjnoeaicjjaaDoor
open Go.ChangeShapes Go.WideShapes Go.ChangeAt Go.RowKit
/-- Bounds of what a tree holds. -/
inductive Tr.In : Tr → Prop where
  | mk (id : Int) (nm : ByteArray) (rep kind : Int) (sub : List Tr) (hi : -9223372036854775808 ≤ id ∧ id ≤ 9223372036854775807) (hs : nm.size ≤ maxLen) (hr : -9223372036854775808 ≤ rep ∧ rep ≤ 9223372036854775807) (hk : -9223372036854775808 ≤ kind ∧ kind ≤ 9223372036854775807) (hl : sub.length ≤ maxLen)
      (each : ∀ j (h : j < sub.length), Tr.In sub[j]) : Tr.In (.node id nm rep kind sub)
instance : Inhabited Tr := ⟨.node 0 ⟨#[]⟩ 0 0 []⟩
theorem bulk_one {H : Type} (d : DataW H) : 1 ≤ Rows.uptoBulk d := by
  cases d with
  | lit l => cases l <;> simp [Rows.uptoBulk]
  | _ => simp [Rows.uptoBulk]
theorem bulk_len {H : Type} : ∀ (l : List (DataW H)), l.length ≤ Rows.uptoBulkAll l
  | [] => by simp [Rows.uptoBulkAll]
  | d :: l => by
    have h1 := bulk_one d
    have h2 := bulk_len l
    simp only [Rows.uptoBulkAll, List.length_cons]
    omega
end Go.Proofs.YthlnjnoeaicjjaaDoor
