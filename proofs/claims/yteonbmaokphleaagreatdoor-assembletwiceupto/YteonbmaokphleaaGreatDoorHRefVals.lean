/-
  The reference's ManyError and ValuesError: what they answer.
-/
import Derived.Test.YteonbmaokphleaaGreatDoorHRefErr
import Derived.Test.YteonbmaokphleaaGreatDoorHSmall
import Derived.Test.YteonbmaokphleaaGreatDoorHPBools
import Derived.Test.YteonbmaokphleaaGreatDoorHBOpenVals
import Derived.Test.YteonbmaokphleaaGreatDoorHBPackF
namespace Go.Proofs.YteonbmaokphleaaGreatDoor
open Go.RowKit
def VE (kd : Int) (vs : List Vl) (i : Nat) (c at_ : Int) : Prop :=
 (c = 0 ∧ at_ = -1 ∧ (1 ≤ kd ∧ kd ≤ 5) ∧ ∀ j (h : j < vs.length), j < i → vs[j].Ok kd) ∨ (c = 4 ∧ at_ = -1 ∧ ¬ (1 ≤ kd ∧ kd ≤ 5)) ∨
 (∃ p : Nat, ∃ hp : p < vs.length, c = 4 ∧ at_ = p ∧ (1 ≤ kd ∧ kd ≤ 5) ∧ ¬ vs[p].Ok kd ∧ ∀ j (h : j < vs.length), j < p → vs[j].Ok kd)
theorem blk_other {w : World} {g k j : Nat} {o : Obj} (h : w.heap[g]? = some o) (hne : g ≠ k) (v : Value) : (w.setCell ⟨k, j, none⟩ v).heap[g]? = some o := by
 rw [Below.heap_setCell _ _ _ _ hne]; exact h
end Go.Proofs.YteonbmaokphleaaGreatDoor
