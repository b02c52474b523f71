/-
  The reference's ReadSigned: what it answers, for every text.
-/
import Derived.Test.YtbklaikniocihaaDoorRd2
import Derived.Test.YtbklaikniocihaaDoorRefSeven
namespace Go.Proofs.YtbklaikniocihaaDoor
open Go.RowKit
theorem ret_s {a b : Int} {c : Int} (h : a = b) : Ending.returned (.tuple #[.int .i64 a, .int .i64 c]) = .returned (.tuple #[.int .i64 b, .int .i64 c]) := by rw [h]
end Go.Proofs.YtbklaikniocihaaDoor
