/-
  What the rows of stage 4's laws list: the eight errors, the table of powers of ten.
-/
import Derived.Test.YtefgompkpjeneaaGreatDoorJBCode
import Derived.Test.YtefgompkpjeneaaGreatDoorJPow10
namespace Go.Proofs.YtefgompkpjeneaaGreatDoor
open Go.RowKit
/-- What the row lists, the handle aside. -/
def txL : List (String × DataW Unit) := [("math/bits.deBruijn32tab", Rows.laid_math_bits_deBruijn32tab), ("math/bits.deBruijn64tab", Rows.laid_math_bits_deBruijn64tab), ("internal/strconv.uint64pow10", Rows.laid_internal_strconv_uint64pow10), ("shredcol/api.ErrText", Rows.laid_shredcol_api_ErrText), ("shredcol/api.ErrBound", Rows.laid_shredcol_api_ErrBound), ("shredcol/api.ErrShape", Rows.laid_shredcol_api_ErrShape), ("shredcol/api.ErrKind", Rows.laid_shredcol_api_ErrKind), ("shredcol/api.ErrName", Rows.laid_shredcol_api_ErrName), ("shredcol/api.ErrNone", Rows.laid_shredcol_api_ErrNone), ("shredcol/api.ErrSum", Rows.laid_shredcol_api_ErrSum), ("shredcol/api.ErrSpace", Rows.laid_shredcol_api_ErrSpace), ("strconv.ErrRange", Rows.laid_strconv_ErrRange), ("strconv.ErrSyntax", Rows.laid_strconv_ErrSyntax)]
theorem txL_get (i : Fin 8) : txL[i.val + 3]? = some (["shredcol/api.ErrText", "shredcol/api.ErrBound", "shredcol/api.ErrShape", "shredcol/api.ErrKind", "shredcol/api.ErrName", "shredcol/api.ErrNone", "shredcol/api.ErrSum", "shredcol/api.ErrSpace"].getD i "", sentD (errT i)) := by
  match i with
  | ⟨0, _⟩ => rfl | ⟨1, _⟩ => rfl | ⟨2, _⟩ => rfl | ⟨3, _⟩ => rfl | ⟨4, _⟩ => rfl | ⟨5, _⟩ => rfl | ⟨6, _⟩ => rfl | ⟨7, _⟩ => rfl
theorem txErrs {W : World} (h : laidMet Tryz.prog txL W ∧ handlesMet Tryz.prog [("errors.errorType", Rows.laid_errors_errorType)] W) : ∃ A, Errs W A := by
  have hs : ∀ i : Fin 8, ∃ a, Sent W (errG i) (errT i) a := fun i =>
    sent_of (Tryz.gErr i) (Tryz.gErrType i) txL (List.mem_of_getElem? (txL_get i)) h.1
  refine ⟨fun i => if hi : i < 8 then (hs ⟨i, hi⟩).choose else ⟨0, 0, none⟩, fun i hi => ?_, handle_of h.2⟩
  rw [dif_pos hi]
  exact (hs ⟨i, hi⟩).choose_spec
end Go.Proofs.YtefgompkpjeneaaGreatDoor
