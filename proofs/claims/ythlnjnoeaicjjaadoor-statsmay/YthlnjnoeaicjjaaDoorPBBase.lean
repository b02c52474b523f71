/-
  wire.Uvarint answers the bytes that the mathematics names, for every number below 2^64.
  The reference's bytes of a number (Seven) are those that the mathematics names, for every number below 2^64.
-/
import Derived.Test.YthlnjnoeaicjjaaDoorRows
import Derived.Test.YthlnjnoeaicjjaaDoorPBMath
import Derived.WalkKit
import Derived.WalkSpells
import Derived.WalkLawsBesides
namespace Go.Proofs.YthlnjnoeaicjjaaDoor
open Go.RowKit
theorem Tryd.info5 : (Tryd.prog.info? 5).map (fun i => (i.zero, i.size, i.bytes)) = some (some (.int .u8 0), 1, 1) := by kernel_rfl
def cellsOf (l : List UInt8) : List Value := l.map fun b => .int .u8 b.toNat
end Go.Proofs.YthlnjnoeaicjjaaDoor

namespace Go.Proofs.YthlnjnoeaicjjaaDoor
open Go.RowKit
theorem byte_conv (w : World) (n : Int) :
    (convert 90 9 (.slice (some ⟨w.heap.size, 0, none⟩) 1 1)).run Tryd.prog (w.alloc (.cells #[.int .u8 n] 5)) = .ok (.string ⟨#[Um.bt n]⟩) (w.alloc (.cells #[.int .u8 n] 5)) := by
  refine run_convert_bytes_arg (w.alloc (.cells #[.int .u8 n] 5)) 90 5 Tryd.underlying90 Tryd.underlying5 w.heap.size 0 1 1 [n] rfl ?_ 9 Tryd.underlying9
  intro i hi
  obtain rfl : i = 0 := by omega
  simp
end Go.Proofs.YthlnjnoeaicjjaaDoor
