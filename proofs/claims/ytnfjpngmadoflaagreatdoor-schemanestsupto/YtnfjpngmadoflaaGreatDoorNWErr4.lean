/-
  A schema's error, and its number.
-/
import Derived.Test.YtnfjpngmadoflaaGreatDoorNSErrM
import Derived.Test.YtnfjpngmadoflaaGreatDoorNBSBase
import Derived.Test.YtnfjpngmadoflaaGreatDoorNCode
namespace Go.Proofs.YtnfjpngmadoflaaGreatDoor
open Go.RowKit
theorem wrong_err {t : Tr} (A : Nat → Addr) (h : vldN t ≠ 0) : ∃ i, i < 8 ∧ vldV (errV (A 1)) (errV (A 2)) (errV (A 4)) t = errV (A i) ∧ seN t = i + 1 := by
  have hs := seN_eq t
  unfold vldN at h hs
  unfold vldV
  split
  · rename_i h1
    rw [if_pos h1] at hs
    exact ⟨1, by omega, rfl, by rw [hs]; rfl⟩
  · rename_i h1
    rw [if_neg h1] at h hs
    split
    · rename_i h2
      rw [if_pos h2] at hs
      exact ⟨2, by omega, rfl, by rw [hs]; rfl⟩
    · rename_i h2
      rw [if_neg h2] at h hs
      split
      · rename_i h3
        rw [if_pos h3] at hs
        exact ⟨4, by omega, rfl, by rw [hs]; rfl⟩
      · rename_i h3
        rw [if_neg h3] at h
        exact absurd rfl h
theorem right_se {t : Tr} (h : vldN t = 0) : seN t = 0 := by rw [seN_eq, h]; rfl
end Go.Proofs.YtnfjpngmadoflaaGreatDoor
