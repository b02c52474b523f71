/-
  ShredParts, for whatever leaf and column.
-/
import Derived.Test.YtcejgakjgcniiaaGreatDoorPWShP
import Derived.Test.YtcejgakjgcniiaaGreatDoorPOpenCol
import Derived.Test.YtcejgakjgcniiaaGreatDoorRows
namespace Go.Proofs.YtcejgakjgcniiaaGreatDoor
open Go.RowKit
theorem shredParts_top (lid kind mr md : Int) (pa : Option Addr) (pc : Nat) (ps : List Int) (c : Cl) (lo hi : Int) (W : World) (mp : ps.length ≤ maxLen) (hp : Lies W pa (i64s ps)) (hat : c.At W) (mc : c.Big) (hL : laidMetH Tryz.prog Rows.shredPartsRow.laid W) :
    Calls Tryz.prog 3 #[.agg #[.int .i64 lid, .int .i64 kind, .int .i64 mr, .int .i64 md, .slice pa ps.length pc], c.val, .int .i64 lo, .int .i64 hi] W fun e w' => e = .returned (.bool true) ∧ Below W.heap.size W w' := by
  obtain ⟨A, hE⟩ := errs_of hL
  exact shredParts_walk lid kind mr md lo hi pa pc ps c W A hE hp hat mp mc
end Go.Proofs.YtcejgakjgcniiaaGreatDoor
