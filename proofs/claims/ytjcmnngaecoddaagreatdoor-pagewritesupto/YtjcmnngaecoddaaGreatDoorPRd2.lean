/-
  wire.ReadVarint, wire.Text and wire.ReadText: what they answer, by cases, for every text.
-/
import Derived.Test.YtjcmnngaecoddaaGreatDoorPBFix
import Derived.Test.YtjcmnngaecoddaaGreatDoorPBBase
import Derived.Lib.Strings
import Derived.Lib.BufferWrite
import Derived.Lib.UnsafeStr
import Derived.Laws.MakeOwn
import Derived.Test.YtjcmnngaecoddaaGreatDoorPBMath
import Derived.Laws.DeepNot64
namespace Go.Proofs.YtjcmnngaecoddaaGreatDoor
open Go.RowKit
set_option maxHeartbeats 400000 in
theorem text_any (s : ByteArray) (w : World) (hs : s.size ≤ 140737488351232) :
    Calls Tryz.prog 39 #[.string s] w fun e w' => e = .returned (.string (⟨(Um.uv s.size).toArray⟩ ++ s)) ∧ Below w.heap.size w w' := by
  have hl := Um.uv_ten (n := s.size) (by omega)
  go_enter Tryz.func39, Tryz.ntmps39
  go_wp2_with fail
  refine (uvarint_any s.size _ (by omega)).mono ?_
  rintro e w1 ⟨rfl, hb1⟩
  go_wp2
  go_ret
  exact ⟨rfl, hb1⟩
end Go.Proofs.YtjcmnngaecoddaaGreatDoor
