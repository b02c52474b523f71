/-
  The walk through a schema, with one visitor: it answers what the list's walk answers, if the visitor does.
  The walk through a schema, with one visitor: it answers what the list's walk answers, if the visitor does.
  schema.inBounds: not too many nodes, not too deep.
  schema.shapesAreRight, schema.isRoot: exact.
  schema.namesAreRight: exact.
  schema.namesAreRight: exact.
-/
import Derived.Test.YtkcobccmifkjcaaDoorCBOwnN
namespace Go.Proofs.YtkcobccmifkjcaaDoor
open Go.RowKit
end Go.Proofs.YtkcobccmifkjcaaDoor

namespace Go.Proofs.YtkcobccmifkjcaaDoor
open Go.RowKit
end Go.Proofs.YtkcobccmifkjcaaDoor

namespace Go.Proofs.YtkcobccmifkjcaaDoor
open Go.RowKit
def stB (m : Nat) (path : List Tr) (_ : Tr) : Bool × Nat := (decide (m + 1 ≤ 40 ∧ path.length < 6), m + 1)
/-- What the visitor holds: how many there were. -/
def cntI (g : Nat) (m : Nat) (W : World) : Prop := m ≤ 40 ∧ W.heap[g]? = some (.cells #[.int .i64 (m : Nat)] 3 (0, 0))
theorem row_one {w : World} {g e : Nat} {x : Value} (h : w.heap[g]? = some (.cells #[x] e (0, 0))) : w.cell? ⟨g, 0, none⟩ = some x ∧ w.frozen? ⟨g, 0, none⟩ = false := by
  constructor <;> simp [World.cell?, World.frozen?, h]
theorem row_setOne {w : World} {g e : Nat} {x v : Value} (h : w.heap[g]? = some (.cells #[x] e (0, 0))) : (w.setCell ⟨g, 0, none⟩ v).heap[g]? = some (.cells #[v] e (0, 0)) := by
  have := row_setC (j := 0) (v := v) h
  simpa using this
def inB (t : Tr) : Bool := (wkT stB 0 [] t).1
end Go.Proofs.YtkcobccmifkjcaaDoor

namespace Go.Proofs.YtkcobccmifkjcaaDoor
open Go.RowKit
def shpOk (t : Tr) : Bool := decide (1 ≤ t.rep ∧ t.rep ≤ 3) && decide (0 ≤ t.kind ∧ t.kind ≤ 5) && (decide (t.kind = 0) == decide (0 < t.sub.length))
def stS (_ : Unit) (_ : List Tr) (t : Tr) : Bool × Unit := (shpOk t, ())
def shpT (t : Tr) : Bool := (wkT stS () [] t).1
def isRootB (t : Tr) : Bool := decide (t.id = 0 ∧ t.nm.toList = [114, 111, 111, 116] ∧ t.rep = 1 ∧ t.kind = 0)
end Go.Proofs.YtkcobccmifkjcaaDoor

namespace Go.Proofs.YtkcobccmifkjcaaDoor
open Go.RowKit
/-- The first place in a list at which something is so, or -1. -/
def Idx {α : Type} (p : α → Bool) (l : List α) (r : Int) : Prop := (r = -1 ∧ ∀ j (h : j < l.length), p l[j] = false) ∨ ∃ (i : Nat) (h : i < l.length), r = i ∧ p l[i] = true ∧ ∀ j (h : j < i), p l[j] = false
theorem Idx.any {α : Type} {p : α → Bool} {l : List α} {r : Int} (h : Idx p l r) : decide (0 ≤ r) = l.any p := by
  rcases h with ⟨rfl, h⟩ | ⟨i, hi, rfl, h1, _⟩
  · symm
    simp only [List.any_eq, show ¬ ((0 : Int) ≤ -1) by omega]
    rw [decide_eq_decide]
    constructor
    · rintro ⟨x, hx, hp⟩
      obtain ⟨j, hj, rfl⟩ := List.getElem_of_mem hx
      rw [h j hj] at hp
      cases hp
    · intro h; cases h
  · have : l.any p = true := List.any_eq_true.2 ⟨l[i], List.getElem_mem hi, h1⟩
    rw [this]
    simp
def smallB (b : UInt8) : Bool := decide (97 ≤ b.toNat ∧ b.toNat ≤ 122)
def nameOk (s : ByteArray) : Bool := decide (1 ≤ s.size ∧ s.size ≤ 12) && s.data.toList.all smallB
end Go.Proofs.YtkcobccmifkjcaaDoor

namespace Go.Proofs.YtkcobccmifkjcaaDoor
open Go.RowKit
/-- The names of nodes, those ahead of them known. -/
def nmsL (ahead : List Tr) : List Tr → Bool
  | [] => true
  | t :: ts => nameOk t.nm && !(ahead.any fun x => x.nm.toList == t.nm.toList) && nmsL (ahead ++ [t]) ts
theorem nmsL_step (ts : List Tr) (i : Nat) (h : i < ts.length) : nmsL (ts.take i) (ts.drop i) = (nameOk ts[i].nm && !((ts.take i).any fun x => x.nm.toList == ts[i].nm.toList) && nmsL (ts.take (i + 1)) (ts.drop (i + 1))) := by
  rw [List.drop_eq_getElem_cons h, nmsL, List.take_succ_eq_append_getElem h]
def stM (_ : Unit) (_ : List Tr) (t : Tr) : Bool × Unit := (nmsL [] t.sub, ())
def nmsT (t : Tr) : Bool := (wkT stM () [] t).1
end Go.Proofs.YtkcobccmifkjcaaDoor
