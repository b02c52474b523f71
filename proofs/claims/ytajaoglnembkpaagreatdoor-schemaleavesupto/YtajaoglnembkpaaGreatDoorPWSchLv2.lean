/-
  SchemaLeaves, from what its row lists.
-/
import Derived.Test.YtajaoglnembkpaaGreatDoorPWSchLv
import Derived.Test.YtajaoglnembkpaaGreatDoorPTxL
namespace Go.Proofs.YtajaoglnembkpaaGreatDoor
open Go.RowKit
theorem schemaLeaves_top (t : Tr) (a : Option Addr) (c n : Nat) (P : Nat → Prop) (W : World) (hd : t.Dp n) (hn : n ≤ 1100000) (hs : t.Sm) (hl : LiesN W P a t.sub) (hL : laidMetH Tryz.prog Rows.schemaLeavesUptoRow.laid W) :
    Calls Tryz.prog 3 #[nodeV t a c] W fun e w' => e = .returned (.bool true) ∧ Below W.heap.size W w' := by
  have h0 : laidMet Tryz.prog txL W ∧ handlesMet Tryz.prog [("errors.errorType", Rows.laid_errors_errorType)] W := hL
  obtain ⟨A, hA⟩ := txErrs h0
  exact schemaLeaves_walk t a c P n hd hn hs W hl A hA (pow10_of (laid_rest (laid_rest h0.1)))
end Go.Proofs.YtajaoglnembkpaaGreatDoor
