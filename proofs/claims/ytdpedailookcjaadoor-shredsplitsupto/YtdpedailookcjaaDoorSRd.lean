/-
  wire.ReadUvarint answers the number that the mathematics names, and its length, or the error that ErrText holds, for every text.
-/
import Derived.Test.YtdpedailookcjaaDoorSBase
import Derived.Test.YtdpedailookcjaaDoorSBMath
import Derived.RegionTactic
namespace Go.Proofs.YtdpedailookcjaaDoor
open Go.RowKit
/-- A number with 7 bits more, at their place, in 64 bits. -/
def acc (n b k : Nat) : Nat := n ||| (b % 128 * 2 ^ (7 * k) % 18446744073709551616)
end Go.Proofs.YtdpedailookcjaaDoor
