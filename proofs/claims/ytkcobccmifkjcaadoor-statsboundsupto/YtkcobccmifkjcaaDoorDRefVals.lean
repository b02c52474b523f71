/-
  The reference's ManyError and ValuesError: what they answer.
-/
import Derived.Test.YtkcobccmifkjcaaDoorDRefErr
import Derived.Test.YtkcobccmifkjcaaDoorDBSmall
import Derived.Test.YtkcobccmifkjcaaDoorDWordsMath
namespace Go.Proofs.YtkcobccmifkjcaaDoor
open Go.RowKit
/-- The number of the error of a kind and a count: 0, none. -/
def manyC (kd n : Int) : Int := if 1 ≤ kd ∧ kd ≤ 5 then (if 0 ≤ n ∧ n ≤ 20000 then 0 else 2) else 4
/-- What ValuesError says of the values up to a place. -/
def VE (kd : Int) (vs : List Vl) (i : Nat) (c at_ : Int) : Prop :=
  (c = 0 ∧ at_ = -1 ∧ (1 ≤ kd ∧ kd ≤ 5) ∧ ∀ j (h : j < vs.length), j < i → vs[j].Ok kd) ∨ (c = 4 ∧ at_ = -1 ∧ ¬ (1 ≤ kd ∧ kd ≤ 5)) ∨
  (∃ p : Nat, ∃ hp : p < vs.length, c = 4 ∧ at_ = p ∧ (1 ≤ kd ∧ kd ≤ 5) ∧ ¬ vs[p].Ok kd ∧ ∀ j (h : j < vs.length), j < p → vs[j].Ok kd)
def RetVE (kd : Int) (vs : List Vl) (e : Ending) : Prop := ∃ c at_, e = .returned (.agg (rfl2 c at_)) ∧ VE kd vs vs.length c at_
/-- What the loop keeps. -/
structure VL (kd : Int) (vs : List Vl) (w : World) (g : Nat) (i : Nat) (c at_ : Int) (wr : World) : Prop where
  res : wr.heap[w.heap.size]? = some (.cells (rfl2 0 0) 31 (0, 0))
  f : wr.heap[g]? = some (.cells (rfl2 c at_) 31 (0, 0))
  ve : VE kd vs i c at_
  old : Below w.heap.size w wr
theorem VL.keep {kd : Int} {vs : List Vl} {w : World} {g i j : Nat} {c at_ : Int} {wr w' : World} (h : VL kd vs w g i c at_ wr) (hb : Below wr.heap.size wr w') (hve : VE kd vs j c at_) : VL kd vs w g j c at_ w' :=
  ⟨blk_keep hb h.res, blk_keep hb h.f, hve, h.old.trans (hb.mono h.old.size)⟩
theorem blk_other {w : World} {g k j : Nat} {o : Obj} (h : w.heap[g]? = some o) (hne : g ≠ k) (v : Value) : (w.setCell ⟨k, j, none⟩ v).heap[g]? = some o := by
  rw [Below.heap_setCell _ _ _ _ hne]; exact h
end Go.Proofs.YtkcobccmifkjcaaDoor
