/-
  The reference's placeWidth and DictOf: what they answer of right values.
-/
import Derived.Test.YtmhkpnmifhfboaaGreatDoorMBDict
import Derived.Test.YtmhkpnmifhfboaaGreatDoorMBRdBools
import Derived.Test.YtmhkpnmifhfboaaGreatDoorMRunsOf
namespace Go.Proofs.YtmhkpnmifhfboaaGreatDoor
open Go.RowKit
set_option maxRecDepth 100000 in
theorem placeWidthR_any (n : Nat) (w : World) (hn : n ≤ 20000) :
    Calls Tryz.prog 50 #[.int .i64 n] w fun e w' => e = .returned (.int .i64 (Um.pw n : Nat)) ∧ w' = w := by
  by_cases h : n < 2
  · have e : Um.pw n = 0 := by unfold Um.pw; rw [show n - 1 = 0 by omega]; rfl
    rw [e]
    go_enter Tryz.func50, Tryz.ntmps50
    go_wp2
    go_ret
    exact ⟨rfl, rfl⟩
  · obtain ⟨m, rfl⟩ : ∃ m, n = m + 1 := ⟨n - 1, by omega⟩
    have e : Um.pw (m + 1) = Lib.bitLen m := rfl
    rw [e]
    go_enter Tryz.func50, Tryz.ntmps50
    go_wp2_with (go_at_call 85; refine (widthOf_any m _ (by omega)).mono ?_; rintro e w1 ⟨rfl, hw⟩; obtain rfl := hw.symm)
    go_ret
    exact ⟨rfl, rfl⟩
end Go.Proofs.YtmhkpnmifhfboaaGreatDoor
