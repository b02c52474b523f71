/-
  From what the rows list to the cells of the error variables.
  The four listed errors in a world.
-/
import Derived.Test.YtjchkhdmjbojjaaDoorLSent
import Derived.OpenShut
namespace Go.Proofs.YtjchkhdmjbojjaaDoor
open Go.RowKit
theorem Tryd.gKind : Tryd.prog.globalNamed "shredcol/api.ErrKind" = some 2 := by kernel_rfl
theorem Tryd.gKindT : (Tryd.prog.globals[2]?).map (·.type) = some 29 := by kernel_rfl
theorem Tryd.gShp : Tryd.prog.globalNamed "shredcol/api.ErrShape" = some 1 := by kernel_rfl
theorem Tryd.gShpT : (Tryd.prog.globals[1]?).map (·.type) = some 29 := by kernel_rfl
theorem Tryd.gBnd : Tryd.prog.globalNamed "shredcol/api.ErrBound" = some 3 := by kernel_rfl
theorem Tryd.gBndT : (Tryd.prog.globals[3]?).map (·.type) = some 29 := by kernel_rfl
theorem Tryd.gTxt : Tryd.prog.globalNamed "shredcol/api.ErrText" = some 0 := by kernel_rfl
theorem Tryd.gTxtT : (Tryd.prog.globals[0]?).map (·.type) = some 29 := by kernel_rfl
theorem kind_of {W : World} {L : List (String × DataW Unit)} (h : laidMet Tryd.prog L W) (hm : ("shredcol/api.ErrKind", Rows.laid_shredcol_api_ErrKind) ∈ L) : ∃ a, W.cell? ⟨2, 0, none⟩ = some (.iface 163 (.pointer (some a))) :=
  (sent_of Tryd.gKind Tryd.gKindT L hm h).imp fun _ hp => hp.var
theorem shape_of {W : World} {L : List (String × DataW Unit)} (h : laidMet Tryd.prog L W) (hm : ("shredcol/api.ErrShape", Rows.laid_shredcol_api_ErrShape) ∈ L) : ∃ a, W.cell? ⟨1, 0, none⟩ = some (.iface 163 (.pointer (some a))) :=
  (sent_of Tryd.gShp Tryd.gShpT L hm h).imp fun _ hp => hp.var
theorem bound_of {W : World} {L : List (String × DataW Unit)} (h : laidMet Tryd.prog L W) (hm : ("shredcol/api.ErrBound", Rows.laid_shredcol_api_ErrBound) ∈ L) : ∃ a, W.cell? ⟨3, 0, none⟩ = some (.iface 163 (.pointer (some a))) :=
  (sent_of Tryd.gBnd Tryd.gBndT L hm h).imp fun _ hp => hp.var
theorem text_of {W : World} {L : List (String × DataW Unit)} (h : laidMet Tryd.prog L W) (hm : ("shredcol/api.ErrText", Rows.laid_shredcol_api_ErrText) ∈ L) : ∃ a, W.cell? ⟨0, 0, none⟩ = some (.iface 163 (.pointer (some a))) :=
  (sent_of Tryd.gTxt Tryd.gTxtT L hm h).imp fun _ hp => hp.var
end Go.Proofs.YtjchkhdmjbojjaaDoor

namespace Go.Proofs.YtjchkhdmjbojjaaDoor
open Go.RowKit
theorem ckA {w w' : World} {g : Nat} {v : Value} (h : w.cell? ⟨g, 0, none⟩ = some v) (hb : Below w.heap.size w w') : w'.cell? ⟨g, 0, none⟩ = some v := (hb.cell (World.block_lt_of_cell? w _ h)).trans h
/-- The listed errors in a world. -/
structure Four4 (w : World) (tt bt st kt : TypeId) (tp bp sp kp : Value) : Prop where
  text : w.cell? ⟨0, 0, none⟩ = some (.iface tt tp)
  bound : w.cell? ⟨3, 0, none⟩ = some (.iface bt bp)
  shape : w.cell? ⟨1, 0, none⟩ = some (.iface st sp)
  kind : w.cell? ⟨2, 0, none⟩ = some (.iface kt kp)
theorem Four4.keep {w w' : World} {tt bt st kt : TypeId} {tp bp sp kp : Value} (h : Four4 w tt bt st kt tp bp sp kp) (hb : Below w.heap.size w w') : Four4 w' tt bt st kt tp bp sp kp :=
  ⟨ckA h.text hb, ckA h.bound hb, ckA h.shape hb, ckA h.kind hb⟩
end Go.Proofs.YtjchkhdmjbojjaaDoor
