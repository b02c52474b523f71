/-
  enc.Less, enc.inTotalOrder and the reference's LessOf: what they answer.
-/
import Derived.Test.YtbicfjimlpdnkaaGreatDoorHBVal
import Derived.Deep.QuietTactic
import Derived.BigQuiet
namespace Go.Proofs.YtbicfjimlpdnkaaGreatDoor
open Go.RowKit
/-- The order of doubles by their bits. -/
def tot (n : Int) : Int := if n < 0 then -9223372036854775809 - n else n
/-- The order of values. -/
def vless (k1 n1 : Int) (s1 : ByteArray) (k2 n2 : Int) (s2 : ByteArray) : Bool :=
  if k1 = k2 then (if k1 = 4 then Op.bytesLess s1.toList s2.toList else if k1 = 5 then decide (tot n1 < tot n2) else decide (n1 < n2)) else decide (k1 < k2)
end Go.Proofs.YtbicfjimlpdnkaaGreatDoor
