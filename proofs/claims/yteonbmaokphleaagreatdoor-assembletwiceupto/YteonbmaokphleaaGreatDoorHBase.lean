/-
  wire.Uvarint answers the bytes that the mathematics names, for every number below 2^64.
-/
import Derived.Test.YteonbmaokphleaaGreatDoorRows
import Derived.Test.YteonbmaokphleaaGreatDoorHBMath
import Derived.WalkKit
import Derived.WalkSpells
import Derived.WalkLawsBesides
namespace Go.Proofs.YteonbmaokphleaaGreatDoor
open Go.RowKit
theorem Tryz.info5 : (Tryz.prog.info? 5).map (fun i => (i.zero, i.size, i.bytes)) = some (some (.int .u8 0), 1, 1) := by kernel_rfl
def cellsOf (l : List UInt8) : List Value := l.map fun b => .int .u8 b.toNat
end Go.Proofs.YteonbmaokphleaaGreatDoor
