/-
  ShredJoins, for whatever leaf and columns.
-/
import Derived.Test.YtcejgakjgcniiaaGreatDoorQWShJ
import Derived.Test.YtcejgakjgcniiaaGreatDoorQOpenCol
import Derived.Test.YtcejgakjgcniiaaGreatDoorRows
namespace Go.Proofs.YtcejgakjgcniiaaGreatDoor
open Go.RowKit
theorem shredJoins_top (lid kind mr md : Int) (pa : Option Addr) (pc : Nat) (ps : List Int) (a : Option Addr) (c : Nat) (cs : List Cl) (W : World) (mp : ps.length ≤ maxLen) (hp : Lies W pa (i64s ps)) (ml : cs.length ≤ maxLen) (hl : LiesC W a cs) (mc : ∀ x ∈ cs, Cl.Big x) (hL : laidMetH Tryz.prog Rows.shredJoinsRow.laid W) :
    Calls Tryz.prog 4 #[.agg #[.int .i64 lid, .int .i64 kind, .int .i64 mr, .int .i64 md, .slice pa ps.length pc], .slice a cs.length c] W fun e w' => e = .returned (.bool true) ∧ Below W.heap.size W w' := by
  obtain ⟨A, hE⟩ := errs_of hL
  exact shredJoins_walk lid kind mr md pa pc ps a c cs W A hE hp mp hl ml mc
end Go.Proofs.YtcejgakjgcniiaaGreatDoor
