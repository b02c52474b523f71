/-
  From what the rows list to the cells of the error variables.
-/
import Derived.Test.YthlnjnoeaicjjaaDoorQSent
import Derived.OpenShut
namespace Go.Proofs.YthlnjnoeaicjjaaDoor
open Go.RowKit
theorem Tryd.gKind : Tryd.prog.globalNamed "shredcol/api.ErrKind" = some 1 := by kernel_rfl
theorem Tryd.gKindT : (Tryd.prog.globals[1]?).map (·.type) = some 31 := by kernel_rfl
theorem Tryd.gShp : Tryd.prog.globalNamed "shredcol/api.ErrShape" = some 3 := by kernel_rfl
theorem Tryd.gShpT : (Tryd.prog.globals[3]?).map (·.type) = some 31 := by kernel_rfl
theorem Tryd.gBnd : Tryd.prog.globalNamed "shredcol/api.ErrBound" = some 2 := by kernel_rfl
theorem Tryd.gBndT : (Tryd.prog.globals[2]?).map (·.type) = some 31 := by kernel_rfl
theorem Tryd.gTxt : Tryd.prog.globalNamed "shredcol/api.ErrText" = some 0 := by kernel_rfl
theorem Tryd.gTxtT : (Tryd.prog.globals[0]?).map (·.type) = some 31 := by kernel_rfl
theorem kind_of {W : World} {L : List (String × DataW Unit)} (h : laidMet Tryd.prog L W) (hm : ("shredcol/api.ErrKind", Rows.laid_shredcol_api_ErrKind) ∈ L) : ∃ a, W.cell? ⟨1, 0, none⟩ = some (.iface 144 (.pointer (some a))) :=
  (sent_of Tryd.gKind Tryd.gKindT L hm h).imp fun _ hp => hp.var
theorem shape_of {W : World} {L : List (String × DataW Unit)} (h : laidMet Tryd.prog L W) (hm : ("shredcol/api.ErrShape", Rows.laid_shredcol_api_ErrShape) ∈ L) : ∃ a, W.cell? ⟨3, 0, none⟩ = some (.iface 144 (.pointer (some a))) :=
  (sent_of Tryd.gShp Tryd.gShpT L hm h).imp fun _ hp => hp.var
theorem bound_of {W : World} {L : List (String × DataW Unit)} (h : laidMet Tryd.prog L W) (hm : ("shredcol/api.ErrBound", Rows.laid_shredcol_api_ErrBound) ∈ L) : ∃ a, W.cell? ⟨2, 0, none⟩ = some (.iface 144 (.pointer (some a))) :=
  (sent_of Tryd.gBnd Tryd.gBndT L hm h).imp fun _ hp => hp.var
theorem text_of {W : World} {L : List (String × DataW Unit)} (h : laidMet Tryd.prog L W) (hm : ("shredcol/api.ErrText", Rows.laid_shredcol_api_ErrText) ∈ L) : ∃ a, W.cell? ⟨0, 0, none⟩ = some (.iface 144 (.pointer (some a))) :=
  (sent_of Tryd.gTxt Tryd.gTxtT L hm h).imp fun _ hp => hp.var
end Go.Proofs.YthlnjnoeaicjjaaDoor
