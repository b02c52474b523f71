/-
  The reader of a schema's text: the words of a node; a leaf.
-/
import Derived.Test.YtlncenjaplaokaaDoorPSOne2
namespace Go.Proofs.YtlncenjaplaokaaDoor
open Go.RowKit
def repW : List ByteArray := [⟨#[114, 101, 113, 117, 105, 114, 101, 100]⟩, ⟨#[111, 112, 116, 105, 111, 110, 97, 108]⟩, ⟨#[114, 101, 112, 101, 97, 116, 101, 100]⟩]
def kindW : List ByteArray := [⟨#[103, 114, 111, 117, 112]⟩, ⟨#[98, 111, 111, 108]⟩, ⟨#[105, 110, 116]⟩, ⟨#[108, 111, 110, 103]⟩, ⟨#[98, 121, 116, 101, 115]⟩, ⟨#[100, 111, 117, 98, 108, 101]⟩]
def semiW : List ByteArray := [⟨#[59]⟩]
theorem strs_row {W : World} {g e : Nat} {zs : List ByteArray} {cs : Array Value} (h : W.heap[g]? = some (.cells cs e (0, 0))) (hc : ∀ j, j < zs.length → cs[j]? = some (.string (zs.getD j ByteArray.empty))) : StrsAt W g 0 zs := fun j hj => by
  rw [Nat.zero_add, cell_of_row _ g j _ e (0, 0) h]
  exact hc j hj
set_option maxRecDepth 100000 in
set_option maxHeartbeats 1600000 in
theorem repWords_any (W : World) : Calls Tryd.prog 38 #[] W fun e w' => e = .returned (.slice (some ⟨W.heap.size, 0, none⟩) 3 3) ∧ StrsAt w' W.heap.size 0 repW ∧ Below W.heap.size W w' := by
  go_enter Tryd.func38, Tryd.ntmps38
  go_wp2
  go_ret
  refine ⟨rfl, strs_row (heap_alloc_new _ _) fun j hj => ?_, (Below.refl _ _).alloc (Nat.le_refl _) _⟩
  have hj3 : j = 0 ∨ j = 1 ∨ j = 2 := by simp [repW] at hj; omega
  rcases hj3 with rfl | rfl | rfl <;> rfl
set_option maxRecDepth 100000 in
set_option maxHeartbeats 1600000 in
theorem kindWords_any (W : World) : Calls Tryd.prog 39 #[] W fun e w' => e = .returned (.slice (some ⟨W.heap.size, 0, none⟩) 6 6) ∧ StrsAt w' W.heap.size 0 kindW ∧ Below W.heap.size W w' := by
  go_enter Tryd.func39, Tryd.ntmps39
  go_wp2
  go_ret
  refine ⟨rfl, strs_row (heap_alloc_new _ _) fun j hj => ?_, (Below.refl _ _).alloc (Nat.le_refl _) _⟩
  have hj3 : j = 0 ∨ j = 1 ∨ j = 2 ∨ j = 3 ∨ j = 4 ∨ j = 5 := by simp [kindW] at hj; omega
  rcases hj3 with rfl | rfl | rfl | rfl | rfl | rfl <;> rfl
end Go.Proofs.YtlncenjaplaokaaDoor
