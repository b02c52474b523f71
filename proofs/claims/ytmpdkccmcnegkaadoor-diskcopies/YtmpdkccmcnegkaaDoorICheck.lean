/-
  bitrun.check: which numbers are right for a width, and where one is not.
-/
import Derived.Test.YtmpdkccmcnegkaaDoorIBits0
namespace Go.Proofs.YtmpdkccmcnegkaaDoor
open Go.RowKit
/-- Has a number room in so many bits? -/
def Room (k : Nat) (n : Int) : Prop := 0 ≤ n ∧ n < 2 ^ k
end Go.Proofs.YtmpdkccmcnegkaaDoor
