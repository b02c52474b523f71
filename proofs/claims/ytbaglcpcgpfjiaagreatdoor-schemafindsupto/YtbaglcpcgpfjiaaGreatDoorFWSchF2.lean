/-
  SchemaFinds, from what its row lists.
-/
import Derived.Test.YtbaglcpcgpfjiaaGreatDoorFWSchF
import Derived.Test.YtbaglcpcgpfjiaaGreatDoorFTxL
import Derived.Test.YtbaglcpcgpfjiaaGreatDoorFOpenNode
namespace Go.Proofs.YtbaglcpcgpfjiaaGreatDoor
open Go.RowKit
theorem schemaFinds_top (t : Tr) (id : Int) (a : Option Addr) (c n : Nat) (P : Nat → Prop) (W : World) (hd : t.Dp n) (hn : n ≤ 1100000) (hs : t.Sm) (hl : LiesN W P a t.sub) (hcp : t.sub.length ≤ c) (hL : laidMetH Tryz.prog Rows.schemaFindsUptoRow.laid W) :
    Calls Tryz.prog 3 #[nodeV t a c, .int .i64 id] W fun e w' => e = .returned (.bool true) ∧ Below W.heap.size W w' := by
  have h0 : laidMet Tryz.prog txL W ∧ handlesMet Tryz.prog [("errors.errorType", Rows.laid_errors_errorType)] W := hL
  obtain ⟨A, hA⟩ := txErrs h0
  exact schemaFinds_walk t id a c P n hd hn hs hcp W hl A hA (pow10_of (laid_rest (laid_rest h0.1)))
end Go.Proofs.YtbaglcpcgpfjiaaGreatDoor
