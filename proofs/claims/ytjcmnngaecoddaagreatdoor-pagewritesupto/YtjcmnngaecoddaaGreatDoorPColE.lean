/-
  The law's columns: slim; the reference's IsLeaf, CountOf, SameColumn.
-/
import Derived.Test.YtjcmnngaecoddaaGreatDoorPBColB
import Derived.Test.YtjcmnngaecoddaaGreatDoorPBSameInts
namespace Go.Proofs.YtjcmnngaecoddaaGreatDoor
open Go.RowKit
set_option maxRecDepth 100000 in
set_option maxHeartbeats 1600000 in
theorem isLeafR_any (id kind mr md : Int) (pa : Option Addr) (pn pc : Nat) (W : World) :
    Calls Tryz.prog 14 #[.agg #[.int .i64 id, .int .i64 kind, .int .i64 mr, .int .i64 md, .slice pa pn pc]] W fun e w' => e = .returned (.bool (isLfB kind mr md)) ∧ Below W.heap.size W w' := by
  have HB : Hid (Below W.heap.size W (W.alloc (.cells #[.int .i64 id, .int .i64 kind, .int .i64 mr, .int .i64 md, .slice pa pn pc] 24))) := (Below.refl _ _).alloc (Nat.le_refl _) _
  obtain ⟨b, Hb⟩ : ∃ b, Hid (isLfB kind mr md = b) := ⟨_, rfl⟩
  rw [Hb.out]
  have HE : Hid (b = decide (1 ≤ kind ∧ kind ≤ 5 ∧ 0 ≤ mr ∧ mr ≤ 40 ∧ 0 ≤ md ∧ md ≤ 40)) := (by
    show _ = _
    rw [← Hb.out, isLfB, btw, btw, btw, Bool.eq_iff_iff]
    simp [and_assoc])
  go_enter Tryz.func14, Tryz.ntmps14
  go_wp2
  all_goals go_ret
  all_goals refine ⟨?_, HB.out⟩
  all_goals rw [HE.out]
  all_goals refine ret_bool' ?_
  all_goals rw [Bool.eq_iff_iff]
  all_goals simp
  all_goals omega
end Go.Proofs.YtjcmnngaecoddaaGreatDoor
