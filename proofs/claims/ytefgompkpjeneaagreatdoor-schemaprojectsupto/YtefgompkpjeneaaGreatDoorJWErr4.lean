/-
  A schema's error, and its number.
-/
import Derived.Test.YtefgompkpjeneaaGreatDoorJSErrM
import Derived.Test.YtefgompkpjeneaaGreatDoorJBSBase
import Derived.Test.YtefgompkpjeneaaGreatDoorJBCode
namespace Go.Proofs.YtefgompkpjeneaaGreatDoor
open Go.RowKit
theorem wrong_err {t : Tr} (A : Nat → Addr) (h : vldN t ≠ 0) : ∃ i, i < 8 ∧ vldV (errV (A 1)) (errV (A 2)) (errV (A 4)) t = errV (A i) ∧ seN t = i + 1 := by
  have hs := seN_eq t
  unfold vldN at h hs
  unfold vldV
  split
  · rename_i h1
    rw [if_pos h1] at hs
    exact ⟨1, by omega, rfl, by rw [hs]; rfl⟩
  · rename_i h1
    rw [if_neg h1] at h hs
    split
    · rename_i h2
      rw [if_pos h2] at hs
      exact ⟨2, by omega, rfl, by rw [hs]; rfl⟩
    · rename_i h2
      rw [if_neg h2] at h hs
      split
      · rename_i h3
        rw [if_pos h3] at hs
        exact ⟨4, by omega, rfl, by rw [hs]; rfl⟩
      · rename_i h3
        rw [if_neg h3] at h
        exact absurd rfl h
theorem right_se {t : Tr} (h : vldN t = 0) : seN t = 0 := by rw [seN_eq, h]; rfl
theorem Errs.er3 {W : World} {A : Nat → Addr} (h : Errs W A) : Er3 W (173, .pointer (some (A 1))) (173, .pointer (some (A 2))) (173, .pointer (some (A 4))) :=
  ⟨(h.at_ 1 (by omega)).var, (h.at_ 2 (by omega)).var, (h.at_ 4 (by omega)).var⟩
end Go.Proofs.YtefgompkpjeneaaGreatDoor
