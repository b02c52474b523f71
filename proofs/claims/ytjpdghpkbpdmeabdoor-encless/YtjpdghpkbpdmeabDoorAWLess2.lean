/-
  EncLess, for whatever two values.
-/
import Derived.Test.YtjpdghpkbpdmeabDoorAWLess
import Derived.Test.YtjpdghpkbpdmeabDoorAOpenVals
import Derived.Test.YtjpdghpkbpdmeabDoorALaid4
namespace Go.Proofs.YtjpdghpkbpdmeabDoor
open Go.RowKit
theorem encLess_top (x y : Vl) (w : World) (hx : x.In) (hy : y.In) (hL : laidMetH Tryd.prog Rows.encLessRow.laid w) :
    Calls Tryd.prog 3 #[.agg #[.int .i64 x.k, .int .i64 x.n, .string x.s], .agg #[.int .i64 y.k, .int .i64 y.n, .string y.s]] w fun e w' => e = .returned (.bool true) ∧ Below w.heap.size w w' := by
  have hL' : laidMet Tryd.prog Rows.encLessRow.laid w := hL
  obtain ⟨a, ha⟩ := kind_of hL' (List.mem_of_getElem? (i := 2) rfl)
  obtain ⟨b, hb⟩ := shape_of hL' (List.mem_of_getElem? (i := 1) rfl)
  exact encLess_walk x.k x.n x.s y.k y.n y.s w hx.2.1.1 hy.2.1.1 _ _ _ _ ha hb
end Go.Proofs.YtjpdghpkbpdmeabDoor
