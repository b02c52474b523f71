/-
  The law's weight: how many data and bytes a record is.
-/
import Derived.Test.YtcejgakjgcniiaaGreatDoorQBOpenNode
import Derived.Test.YtcejgakjgcniiaaGreatDoorQOwn
import Derived.RegionTactic
namespace Go.Proofs.YtcejgakjgcniiaaGreatDoor
open Go.RowKit
theorem wtL_app : ∀ (xs ys : List Dt), wtL (xs ++ ys) = wtL xs + wtL ys
  | [], ys => by simp [wtL]
  | x :: xs, ys => by rw [List.cons_append, wtL, wtL, wtL_app xs ys]; omega
theorem wtL_take (ds : List Dt) (i : Nat) (hi : i < ds.length) : wtL (ds.take (i + 1)) = wtL (ds.take i) + wt ds[i] := by
  rw [List.take_succ_eq_append_getElem hi, wtL_app, wtL, wtL]
  omega
theorem wtL_part (ds : List Dt) (i : Nat) : wtL (ds.take i) ≤ wtL ds := by
  have h := wtL_app (ds.take i) (ds.drop i)
  rw [List.take_append_drop] at h
  omega
theorem Dt.l_size (d : Dt) (j : Nat) (hj : j < d.l.length) : SizeOf.sizeOf d.l[j] < SizeOf.sizeOf d := by
  cases d with
  | mk no v l f =>
    have h := List.sizeOf_lt_of_mem (List.getElem_mem (l := l) (n := j) hj)
    show SizeOf.sizeOf l[j] < _
    simp only [Dt.mk.sizeOf_spec]
    omega
theorem Dt.f_size (d : Dt) (j : Nat) (hj : j < d.f.length) : SizeOf.sizeOf d.f[j] < SizeOf.sizeOf d := by
  cases d with
  | mk no v l f =>
    have h := List.sizeOf_lt_of_mem (List.getElem_mem (l := f) (n := j) hj)
    show SizeOf.sizeOf f[j] < _
    simp only [Dt.mk.sizeOf_spec]
    omega
/-- A datum as a value. -/
abbrev datumV (d : Dt) (al : Option Addr) (cl : Nat) (af : Option Addr) (cf : Nat) : Value := .agg #[.bool d.no, .int .i64 d.v.k, .int .i64 d.v.n, .string d.v.s, .slice al d.l.length cl, .slice af d.f.length cf]
theorem row_six {w : World} {g e : Nat} {x0 x1 x2 x3 x4 x5 : Value} (h : w.heap[g]? = some (.cells #[x0, x1, x2, x3, x4, x5] e (0, 0))) :
    w.cell? ⟨g, 0, none⟩ = some x0 ∧ w.cell? ⟨g, 1, none⟩ = some x1 ∧ w.cell? ⟨g, 2, none⟩ = some x2 ∧ w.cell? ⟨g, 3, none⟩ = some x3 ∧ w.cell? ⟨g, 4, none⟩ = some x4 ∧ w.cell? ⟨g, 5, none⟩ = some x5 :=
  ⟨cell_of_row w g 0 _ e _ h, cell_of_row w g 1 _ e _ h, cell_of_row w g 2 _ e _ h, cell_of_row w g 3 _ e _ h, cell_of_row w g 4 _ e _ h, cell_of_row w g 5 _ e _ h⟩
end Go.Proofs.YtcejgakjgcniiaaGreatDoor
