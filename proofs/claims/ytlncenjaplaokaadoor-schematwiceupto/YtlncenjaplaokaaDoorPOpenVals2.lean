/-
  Slices of values that came in.
-/
import Derived.Test.YtlncenjaplaokaaDoorPOpenVals
namespace Go.Proofs.YtlncenjaplaokaaDoor
open Go.ChangeShapes Go.WideShapes Go.ChangeAt Go.RowKit
theorem addr_plus (b o j : Nat) : (⟨b, o, none⟩ : Addr).add j = ⟨b, o + j, none⟩ := by unfold Addr.add; split <;> simp_all
end Go.Proofs.YtlncenjaplaokaaDoor
