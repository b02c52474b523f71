/-
  The walk of the law BitsWidth.
-/
import Derived.Test.YtgmglgepmdmmeaaDoorWidth
import Derived.Test.YtgmglgepmdmmeaaDoorSent
import Derived.OpenShut
namespace Go.Proofs.YtgmglgepmdmmeaaDoor
open Go.RowKit
theorem Tryd.gShape : Tryd.prog.globalNamed "shredcol/api.ErrShape" = some 2 := by kernel_rfl
theorem Tryd.gShapeType : (Tryd.prog.globals[2]?).map (·.type) = some 28 := by kernel_rfl
theorem bitsWidth_top (n : Int) (w : World) (hn : (Lit.int .i64 n).wf = true) (hL : laidMetH Tryd.prog Rows.bitsWidthRow.laid w) :
    Calls Tryd.prog 8 #[.int .i64 n] w fun e w' => e = .returned (.bool true) ∧ Below w.heap.size w w' := by
  have hnb := bounds_i64 hn
  have hL' : laidMet Tryd.prog Rows.bitsWidthRow.laid w := hL
  obtain ⟨p, hp⟩ := sent_of Tryd.gShape Tryd.gShapeType _ (List.mem_cons_of_mem _ (List.mem_singleton.2 rfl)) hL'
  exact bitsWidth_walk n w hnb.1 hnb.2 _ _ hp.var
end Go.Proofs.YtgmglgepmdmmeaaDoor
