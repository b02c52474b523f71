/-
  The reference's Bare, Fine and BitsError, and the law's faulted: what they answer.
  The four listed errors in a world.
-/
import Derived.Test.YtgpfmjbebfmmnaaGreatDoorPBPack
import Derived.Test.YtgpfmjbebfmmnaaGreatDoorPBErrAs
import Derived.Laws.CopyOwn
import Derived.OpenShut
namespace Go.Proofs.YtgpfmjbebfmmnaaGreatDoor
open Go.RowKit
abbrev rfl2 (c i : Int) : Array Value := #[.int .i64 c, .int .i64 i]
theorem row_setCell {w : World} {g j : Nat} {cs : Array Value} {t : TypeId} (h : w.heap[g]? = some (.cells cs t (0, 0))) (v : Value) : (w.setCell ⟨g, j, none⟩ v).heap[g]? = some (.cells (cs.setIfInBounds j v) t (0, 0)) := by
 simp [World.setCell, Array.getElem?_modify, h]
theorem ckA {w w' : World} {g : Nat} {v : Value} (h : w.cell? ⟨g, 0, none⟩ = some v) (hb : Below w.heap.size w w') : w'.cell? ⟨g, 0, none⟩ = some v := (hb.cell (World.block_lt_of_cell? w _ h)).trans h
structure Four4 (w : World) (tt bt st kt : TypeId) (tp bp sp kp : Value) : Prop where
 text : w.cell? ⟨2, 0, none⟩ = some (.iface tt tp)
 bound : w.cell? ⟨1, 0, none⟩ = some (.iface bt bp)
 shape : w.cell? ⟨0, 0, none⟩ = some (.iface st sp)
 kind : w.cell? ⟨3, 0, none⟩ = some (.iface kt kp)
theorem Four4.keep {w w' : World} {tt bt st kt : TypeId} {tp bp sp kp : Value} (h : Four4 w tt bt st kt tp bp sp kp) (hb : Below w.heap.size w w') : Four4 w' tt bt st kt tp bp sp kp :=
 ⟨ckA h.text hb, ckA h.bound hb, ckA h.shape hb, ckA h.kind hb⟩
end Go.Proofs.YtgpfmjbebfmmnaaGreatDoor
