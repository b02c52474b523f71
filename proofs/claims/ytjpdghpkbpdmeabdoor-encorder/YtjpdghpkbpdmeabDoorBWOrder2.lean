/-
  EncOrder, for whatever three values.
-/
import Derived.Test.YtjpdghpkbpdmeabDoorBWOrder
import Derived.Test.YtjpdghpkbpdmeabDoorBOpenVals
import Derived.Test.YtjpdghpkbpdmeabDoorBLaid4
namespace Go.Proofs.YtjpdghpkbpdmeabDoor
open Go.RowKit
theorem encOrder_top (x y z : Vl) (w : World) (hx : x.In) (hy : y.In) (hz : z.In) (hL : laidMetH Tryd.prog Rows.encOrderRow.laid w) :
    Calls Tryd.prog 4 #[.agg #[.int .i64 x.k, .int .i64 x.n, .string x.s], .agg #[.int .i64 y.k, .int .i64 y.n, .string y.s], .agg #[.int .i64 z.k, .int .i64 z.n, .string z.s]] w fun e w' => e = .returned (.bool true) ∧ Below w.heap.size w w' := by
  have hL' : laidMet Tryd.prog Rows.encOrderRow.laid w := hL
  obtain ⟨a, ha⟩ := kind_of hL' (List.mem_of_getElem? (i := 2) rfl)
  obtain ⟨b, hb⟩ := shape_of hL' (List.mem_of_getElem? (i := 1) rfl)
  exact encOrder_walk x.k x.n x.s y.k y.n y.s z.k z.n z.s w hx.2.1.1 hy.2.1.1 hz.2.1.1 _ _ _ _ ha hb
end Go.Proofs.YtjpdghpkbpdmeabDoor
