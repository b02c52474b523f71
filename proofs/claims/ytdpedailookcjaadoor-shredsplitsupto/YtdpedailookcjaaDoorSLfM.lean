/-
  A leaf of a schema as it is told.
-/
import Derived.Test.YtdpedailookcjaaDoorSBOwnN
import Derived.Test.YtdpedailookcjaaDoorSBAppWhere
import Derived.Test.YtdpedailookcjaaDoorSBPackF
namespace Go.Proofs.YtdpedailookcjaaDoor
open Go.RowKit
theorem Tryd.infoI : (Tryd.prog.info? 3).map (fun i => (i.zero, i.size, i.bytes)) = some (some (.int .i64 0), 1, 8) := by kernel_rfl
/-- A leaf: its number, kind, levels and path. -/
structure Lf where
  id : Int
  kind : Int
  mr : Nat
  md : Nat
  path : List Int
def lvR (l : List Tr) : Nat := (l.filter fun t => decide (t.rep = 3)).length
def lvD (l : List Tr) : Nat := (l.filter fun t => decide (t.rep ≠ 1)).length
theorem lvR_snoc (l : List Tr) (t : Tr) : lvR (l ++ [t]) = lvR l + (if t.rep = 3 then 1 else 0) := by
  unfold lvR
  rw [List.filter_append, List.length_append]
  by_cases h : t.rep = 3 <;> simp [h]
theorem lvD_snoc (l : List Tr) (t : Tr) : lvD (l ++ [t]) = lvD l + (if t.rep = 1 then 0 else 1) := by
  unfold lvD
  rw [List.filter_append, List.length_append]
  by_cases h : t.rep = 1 <;> simp [h]
def lfO (t : Tr) (path : List Tr) : Lf := ⟨t.id, t.kind, lvR (path ++ [t]), lvD (path ++ [t]), (path ++ [t]).map Tr.id⟩
def lfC (f : Lf) (pv : Value) : List Value := [.int .i64 f.id, .int .i64 f.kind, .int .i64 (f.mr : Nat), .int .i64 (f.md : Nat), pv]
theorem own_type {W : World} {N e s n : Nat} {v : Value} {xs : List Value} (h : W.ownsRow N e s v n xs) {k : Nat} {cs : Array Value} {e' : TypeId} {z : Nat × Nat} (hk : W.heap[k]? = some (.cells cs e' z)) (hne : e ≠ e') : some k ≠ v.ownBlock := fun e2 => by
  obtain ⟨_, _, cs', h3⟩ := own_block h e2.symm
  rw [h3] at hk
  injection hk with hk
  injection hk with _ hk _
  exact hne hk
end Go.Proofs.YtdpedailookcjaaDoor
