/-
  The reference's Long: bytes behind their length.
-/
import Derived.Test.YtjchkhdmjbojjaaDoorJBSeven
import Derived.RegionTactic
namespace Go.Proofs.YtjchkhdmjbojjaaDoor
open Go.RowKit
set_option maxHeartbeats 400000 in
theorem long_any (s : ByteArray) (w : World) (hs : s.size ≤ 140737488351232) :
    Calls Tryd.prog 33 #[.string s] w fun e w' => e = .returned (.string (⟨(Um.uv s.size).toArray⟩ ++ s)) ∧ Below w.heap.size w w' := by
  have hl := Um.uv_ten (n := s.size) (by omega)
  go_enter Tryd.func33, Tryd.ntmps33
  go_wp2_with fail
  refine (seven_any s.size _ (by omega)).mono ?_
  rintro e w1 ⟨rfl, hb1⟩
  go_wp2
  go_ret
  exact ⟨rfl, hb1⟩
end Go.Proofs.YtjchkhdmjbojjaaDoor
