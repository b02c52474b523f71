/-
  Values, and slices of values, that came in: what they hold; that they read behind the call as they did before.
  Slices of values that came in.
-/
import Derived.Test.YtbicfjimlpdnkaaGreatDoorHBVal
import Derived.ChangeSlices
import Derived.Deep.Slices
import Derived.Carry
import Derived.OpenShut
import Derived.ProofKit
namespace Go.Proofs.YtbicfjimlpdnkaaGreatDoor
open Go.ChangeShapes Go.WideShapes Go.ChangeAt Go.RowKit
theorem Tryz.cellsI : Tryz.prog.cellsOf 3 = 1 := by kernel_rfl
theorem Tryz.cellsI64 : Tryz.prog.cellsOf 2 = 1 := by kernel_rfl
theorem Tryz.cellsS : Tryz.prog.cellsOf 9 = 1 := by kernel_rfl
theorem Tryz.cellsV : Tryz.prog.cellsOf 56 = 3 := by kernel_rfl
theorem Tryz.laidV : laidOutB Tryz.prog = true := by kernel_rfl
/-- A value's bounds: 64 bits; a text of a possible length. -/
def Vl.In (v : Vl) : Prop := (-9223372036854775808 ≤ v.k ∧ v.k ≤ 9223372036854775807) ∧ (-9223372036854775808 ≤ v.n ∧ v.n ≤ 9223372036854775807) ∧ v.s.size ≤ maxLen
end Go.Proofs.YtbicfjimlpdnkaaGreatDoor

namespace Go.Proofs.YtbicfjimlpdnkaaGreatDoor
open Go.ChangeShapes Go.WideShapes Go.ChangeAt Go.RowKit
theorem addr_plus (b o j : Nat) : (⟨b, o, none⟩ : Addr).add j = ⟨b, o + j, none⟩ := by unfold Addr.add; split <;> simp_all
end Go.Proofs.YtbicfjimlpdnkaaGreatDoor
