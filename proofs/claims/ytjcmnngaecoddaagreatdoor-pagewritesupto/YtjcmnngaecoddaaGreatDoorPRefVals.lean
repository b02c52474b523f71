/-
  The reference's ManyError and ValuesError: what they answer.
-/
import Derived.Test.YtjcmnngaecoddaaGreatDoorPRefErr
import Derived.Test.YtjcmnngaecoddaaGreatDoorPSmall
import Derived.Test.YtjcmnngaecoddaaGreatDoorPBWordsMath
namespace Go.Proofs.YtjcmnngaecoddaaGreatDoor
open Go.RowKit
/-- What ValuesError says of the values up to a place. -/
def VE (kd : Int) (vs : List Vl) (i : Nat) (c at_ : Int) : Prop :=
  (c = 0 ∧ at_ = -1 ∧ (1 ≤ kd ∧ kd ≤ 5) ∧ ∀ j (h : j < vs.length), j < i → vs[j].Ok kd) ∨ (c = 4 ∧ at_ = -1 ∧ ¬ (1 ≤ kd ∧ kd ≤ 5)) ∨
  (∃ p : Nat, ∃ hp : p < vs.length, c = 4 ∧ at_ = p ∧ (1 ≤ kd ∧ kd ≤ 5) ∧ ¬ vs[p].Ok kd ∧ ∀ j (h : j < vs.length), j < p → vs[j].Ok kd)
/-- What the loop keeps. -/
structure VL (kd : Int) (vs : List Vl) (w : World) (g : Nat) (i : Nat) (c at_ : Int) (wr : World) : Prop where
  res : wr.heap[w.heap.size]? = some (.cells (rfl2 0 0) 32 (0, 0))
  f : wr.heap[g]? = some (.cells (rfl2 c at_) 32 (0, 0))
  ve : VE kd vs i c at_
  old : Below w.heap.size w wr
theorem VL.keep {kd : Int} {vs : List Vl} {w : World} {g i j : Nat} {c at_ : Int} {wr w' : World} (h : VL kd vs w g i c at_ wr) (hb : Below wr.heap.size wr w') (hve : VE kd vs j c at_) : VL kd vs w g j c at_ w' :=
  ⟨blk_keep hb h.res, blk_keep hb h.f, hve, h.old.trans (hb.mono h.old.size)⟩
theorem blk_other {w : World} {g k j : Nat} {o : Obj} (h : w.heap[g]? = some o) (hne : g ≠ k) (v : Value) : (w.setCell ⟨k, j, none⟩ v).heap[g]? = some o := by
  rw [Below.heap_setCell _ _ _ _ hne]; exact h
end Go.Proofs.YtjcmnngaecoddaaGreatDoor
