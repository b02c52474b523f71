/-
  The reference's Bare, Fine and BitsError, and the law's faulted: what they answer.
-/
import Derived.Test.YteeheodcejeloaaGreatDoorRBPack
import Derived.Test.YteeheodcejeloaaGreatDoorRBSent
import Derived.Laws.CopyOwn
namespace Go.Proofs.YteeheodcejeloaaGreatDoor
open Go.RowKit
/-- A Fault of the reference: its cells. -/
abbrev rfl2 (c i : Int) : Array Value := #[.int .i64 c, .int .i64 i]
set_option maxRecDepth 100000 in
theorem bare_any (k : Int) (w : World) : Calls Tryz.prog 57 #[.int .i64 k] w fun e w' => e = .returned (.agg (rfl2 k (-1))) ∧ w' = w.alloc (.cells (rfl2 k (-1)) 76) := by
  go_enter Tryz.func57, Tryz.ntmps57
  go_wp2
  exact bodyPost_ret (v := .agg (rfl2 k (-1))) (results_cell_row Tryz.results57 _ _ w.heap.size 76 (rfl2 k (-1)) (0, 0) _ rfl (heap_alloc_new w _) Tryz.underlying76 rfl (by kernel_rfl)) rfl ⟨rfl, rfl⟩
set_option maxRecDepth 100000 in
theorem fine_any (w : World) : Calls Tryz.prog 59 #[] w fun e w' => e = .returned (.agg (rfl2 0 (-1))) ∧ w' = w.alloc (.cells (rfl2 0 (-1)) 76) := by
  go_enter Tryz.func59, Tryz.ntmps59
  go_wp2
  exact bodyPost_ret (v := .agg (rfl2 0 (-1))) (results_cell_row Tryz.results59 _ _ w.heap.size 76 (rfl2 0 (-1)) (0, 0) _ rfl (heap_alloc_new w _) Tryz.underlying76 rfl (by kernel_rfl)) rfl ⟨rfl, rfl⟩
theorem row_setCell {w : World} {g j : Nat} {cs : Array Value} {t : TypeId} (h : w.heap[g]? = some (.cells cs t (0, 0))) (v : Value) : (w.setCell ⟨g, j, none⟩ v).heap[g]? = some (.cells (cs.setIfInBounds j v) t (0, 0)) := by
  simp [World.setCell, Array.getElem?_modify, h]
/-- What is known of a Fault's block. -/
theorem row_two {w : World} {g : Nat} {x y : Int} {t : TypeId} (h : w.heap[g]? = some (.cells (rfl2 x y) t (0, 0))) :
    (w.cell? ⟨g, 0, none⟩ = some (.int .i64 x) ∧ w.cell? ⟨g, 1, none⟩ = some (.int .i64 y)) ∧ w.frozen? ⟨g, 0, none⟩ = false ∧ w.frozen? ⟨g, 1, none⟩ = false :=
  ⟨⟨cell_of_row w g 0 _ t _ h, cell_of_row w g 1 _ t _ h⟩, frozen_of_row w g 0 _ t h, frozen_of_row w g 1 _ t h⟩
theorem row_put {w : World} {g : Nat} {x y : Int} {t : TypeId} (h : w.heap[g]? = some (.cells (rfl2 x y) t (0, 0))) (x' y' : Int) :
    ((w.setCell ⟨g, 0, none⟩ (.int .i64 x')).setCell ⟨g, 1, none⟩ (.int .i64 y')).heap[g]? = some (.cells (rfl2 x' y') t (0, 0)) :=
  row_setCell (row_setCell h _) _
end Go.Proofs.YteeheodcejeloaaGreatDoor
