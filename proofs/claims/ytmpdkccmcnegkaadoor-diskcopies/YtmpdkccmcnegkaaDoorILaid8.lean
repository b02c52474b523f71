/-
  From what the rows list to what the walks use: the eight errors and the handle of the type error.
-/
import Derived.Test.YtmpdkccmcnegkaaDoorICode
namespace Go.Proofs.YtmpdkccmcnegkaaDoor
open Go.RowKit
theorem Tryd.gErr : ∀ i : Fin 8, Tryd.prog.globalNamed (["shredcol/api.ErrText", "shredcol/api.ErrBound", "shredcol/api.ErrShape", "shredcol/api.ErrKind", "shredcol/api.ErrName", "shredcol/api.ErrNone", "shredcol/api.ErrSum", "shredcol/api.ErrSpace"].getD i "") = some (errG i)
  | ⟨0, _⟩ => by kernel_rfl | ⟨1, _⟩ => by kernel_rfl | ⟨2, _⟩ => by kernel_rfl | ⟨3, _⟩ => by kernel_rfl | ⟨4, _⟩ => by kernel_rfl | ⟨5, _⟩ => by kernel_rfl | ⟨6, _⟩ => by kernel_rfl | ⟨7, _⟩ => by kernel_rfl
theorem Tryd.gErrType : ∀ i : Fin 8, (Tryd.prog.globals[errG i]?).map (·.type) = some 26
  | ⟨0, _⟩ => by kernel_rfl | ⟨1, _⟩ => by kernel_rfl | ⟨2, _⟩ => by kernel_rfl | ⟨3, _⟩ => by kernel_rfl | ⟨4, _⟩ => by kernel_rfl | ⟨5, _⟩ => by kernel_rfl | ⟨6, _⟩ => by kernel_rfl | ⟨7, _⟩ => by kernel_rfl
theorem Tryd.gHandle : Tryd.prog.globalNamed "errors.errorType" = some 8 := by kernel_rfl
theorem Tryd.rt : (Tryd.prog.cutTypes.find? (·.1 == "internal/reflectlite.rtype")).map (·.2) = some 96 := by kernel_rfl
theorem Tryd.oneRow : ((List.range 162).filter fun t => Tryd.prog.rowNamed t [101, 114, 114, 111, 114]) = [26] := by kernel_rfl
theorem Tryd.ntypes : Tryd.prog.types.size = 162 := by kernel_rfl
theorem handle_of {W : World} (h : handlesMet Tryd.prog [("errors.errorType", Rows.laid_errors_errorType)] W) : W.cell? ⟨8, 0, none⟩ = some handleV := by
  obtain ⟨name, u, ty, e1, e2, e3, e4, e5⟩ := h _ (List.mem_singleton.2 rfl)
  have en : name = [101, 114, 114, 111, 114] := (Option.some.inj e1).symm
  subst en
  obtain rfl := Option.some.inj (Tryd.rt.symm.trans e2)
  have hm : ty ∈ (List.range 162).filter fun t => Tryd.prog.rowNamed t [101, 114, 114, 111, 114] := List.mem_filter.2 ⟨List.mem_range.2 (by rw [← Tryd.ntypes]; exact e3), e4⟩
  rw [Tryd.oneRow] at hm
  obtain rfl := List.mem_singleton.1 hm
  have hh : typeHandle Tryd.prog 26 = .pointer (some ⟨9, 26, none⟩) := by kernel_rfl
  rw [hh] at e5
  simpa using World.var?_cell Tryd.gHandle e5 0
/-- The eight errors as the rows list them. -/
def eightL : List (String × DataW Unit) := [("shredcol/api.ErrText", Rows.laid_shredcol_api_ErrText), ("shredcol/api.ErrBound", Rows.laid_shredcol_api_ErrBound), ("shredcol/api.ErrShape", Rows.laid_shredcol_api_ErrShape), ("shredcol/api.ErrKind", Rows.laid_shredcol_api_ErrKind), ("shredcol/api.ErrName", Rows.laid_shredcol_api_ErrName), ("shredcol/api.ErrNone", Rows.laid_shredcol_api_ErrNone), ("shredcol/api.ErrSum", Rows.laid_shredcol_api_ErrSum), ("shredcol/api.ErrSpace", Rows.laid_shredcol_api_ErrSpace)]
theorem eightL_get (i : Fin 8) : eightL[i.val]? = some (["shredcol/api.ErrText", "shredcol/api.ErrBound", "shredcol/api.ErrShape", "shredcol/api.ErrKind", "shredcol/api.ErrName", "shredcol/api.ErrNone", "shredcol/api.ErrSum", "shredcol/api.ErrSpace"].getD i "", sentD (errT i)) := by
  match i with
  | ⟨0, _⟩ => rfl | ⟨1, _⟩ => rfl | ⟨2, _⟩ => rfl | ⟨3, _⟩ => rfl | ⟨4, _⟩ => rfl | ⟨5, _⟩ => rfl | ⟨6, _⟩ => rfl | ⟨7, _⟩ => rfl
theorem errs_of {W : World} (h : laidMet Tryd.prog eightL W ∧ handlesMet Tryd.prog [("errors.errorType", Rows.laid_errors_errorType)] W) : ∃ A, Errs W A := by
  have hs : ∀ i : Fin 8, ∃ a, Sent W (errG i) (errT i) a := fun i =>
    sent_of (Tryd.gErr i) (Tryd.gErrType i) eightL (List.mem_of_getElem? (eightL_get i)) h.1
  refine ⟨fun i => if hi : i < 8 then (hs ⟨i, hi⟩).choose else ⟨0, 0, none⟩, fun i hi => ?_, handle_of h.2⟩
  rw [dif_pos hi]
  exact (hs ⟨i, hi⟩).choose_spec
end Go.Proofs.YtmpdkccmcnegkaaDoor
