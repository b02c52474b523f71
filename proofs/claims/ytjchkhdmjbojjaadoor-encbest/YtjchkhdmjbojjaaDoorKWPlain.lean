/-
  The walk of the law EncPlain.
-/
import Derived.Test.YtjchkhdmjbojjaaDoorKRefVals
import Derived.Test.YtjchkhdmjbojjaaDoorKPlainOf
import Derived.Test.YtjchkhdmjbojjaaDoorKBFour
import Derived.Test.YtjchkhdmjbojjaaDoorKBCodeFault
namespace Go.Proofs.YtjchkhdmjbojjaaDoor
open Go.RowKit
theorem ec {w : World} {A : Nat → Addr} (h : Errs w A) (i : Nat) (hi : i < 8) : w.cell? ⟨errG i, 0, none⟩ = some (errV (A i)) := (h.at_ i hi).var
theorem ve_right {kd : Int} {vs : List Vl} {c at_ : Int} (h : VE kd vs vs.length c at_) (hin : ∀ v ∈ vs, v.In) (hc : c = 0) : Right kd vs := by
  rcases h with ⟨_, _, h3, h4⟩ | ⟨h, _⟩ | ⟨p, hp, h, _⟩
  · refine ⟨h3, fun v hv => ?_⟩
    obtain ⟨j, hj, rfl⟩ := List.getElem_of_mem hv
    exact ⟨h4 j hj hj, hin _ hv⟩
  · omega
  · omega
end Go.Proofs.YtjchkhdmjbojjaaDoor
