/-
  What the law and the reference make of ints: ints, Wide, bitsOf, PackOf: what they answer.
-/
import Derived.Test.YtmfijliladancaaGreatDoorXBase
import Derived.Test.YtmfijliladancaaGreatDoorXBMath
import Derived.Laws.MakeOwn
import Derived.RegionTactic
import Derived.OwnWalk
import Derived.Lib.AppendZeros
namespace Go.Proofs.YtmfijliladancaaGreatDoor
open Go.RowKit
theorem Tryz.info3 : (Tryz.prog.info? 3).map (fun i => (i.zero, i.size, i.bytes)) = some (some (.int .i64 0), 1, 8) := by kernel_rfl
theorem Tryz.info85 : (Tryz.prog.info? 85).map (fun i => (i.zero, i.size, i.bytes)) = some (some (.int .u64 0), 1, 8) := by kernel_rfl
/-- Where a slice's cells lie. -/
def Lies (w : World) (a : Option Addr) (cs : List Value) : Prop := ∀ j (h : j < cs.length), ∃ b o, a = some ⟨b, o, none⟩ ∧ w.cell? ⟨b, o + j, none⟩ = some cs[j]
theorem Lies.keep {w w' : World} {a : Option Addr} {cs : List Value} (h : Lies w a cs) (hb : Below w.heap.size w w') : Lies w' a cs := fun j hj => by
  obtain ⟨b, o, e, hc⟩ := h j hj
  exact ⟨b, o, e, (hb.cell (World.block_lt_of_cell? w _ hc)).trans hc⟩
end Go.Proofs.YtmfijliladancaaGreatDoor
