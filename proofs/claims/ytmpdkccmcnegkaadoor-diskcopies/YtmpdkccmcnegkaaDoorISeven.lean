/-
  The reference's bytes of a number (Seven) are those that the mathematics names, for every number below 2^64.
-/
import Derived.Test.YtmpdkccmcnegkaaDoorIBase
namespace Go.Proofs.YtmpdkccmcnegkaaDoor
open Go.RowKit
theorem byte_conv (w : World) (n : Int) :
    (convert 61 9 (.slice (some ⟨w.heap.size, 0, none⟩) 1 1)).run Tryd.prog (w.alloc (.cells #[.int .u8 n] 5)) = .ok (.string ⟨#[Um.bt n]⟩) (w.alloc (.cells #[.int .u8 n] 5)) := by
  refine run_convert_bytes_arg (w.alloc (.cells #[.int .u8 n] 5)) 61 5 Tryd.underlying61 Tryd.underlying5 w.heap.size 0 1 1 [n] rfl ?_ 9 Tryd.underlying9
  intro i hi
  obtain rfl : i = 0 := by omega
  simp
end Go.Proofs.YtmpdkccmcnegkaaDoor
