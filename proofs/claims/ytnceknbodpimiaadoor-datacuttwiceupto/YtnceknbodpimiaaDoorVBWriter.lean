/-
  shred's writer: what it holds; an entry behind the others.
  shred's writer: entry.
  shred's writer: down and list.
  shred's writer: list.
  shred's columns: bounds, levels, how many.
  shred's columns: how many values, how many records; the first wrong value.
  shred's columns: the first wrong value; fits; check.
  shred.stepsTo: the steps to a leaf.
-/
import Derived.Test.YtnceknbodpimiaaDoorVBSmall
import Derived.Test.YtnceknbodpimiaaDoorVDFrm
import Derived.Test.YtnceknbodpimiaaDoorVBLeafOf
import Derived.Test.YtnceknbodpimiaaDoorVBChkD
import Derived.RegionTactic
import Derived.Deep.RegionWith
import Derived.Test.YtnceknbodpimiaaDoorVOwn
import Derived.Deep.QuietTactic
import Derived.BigQuiet
import Derived.Test.YtnceknbodpimiaaDoorVBVal
namespace Go.Proofs.YtnceknbodpimiaaDoor
open Go.RowKit
/-- A step of a path. -/
structure Stp where
  field : Nat
  rep : Int
  dfn : Nat
  lists : Nat
def stC (s : Stp) : List Value := [.int .i64 (s.field : Nat), .int .i64 s.rep, .int .i64 (s.dfn : Nat), .int .i64 (s.lists : Nat)]
end Go.Proofs.YtnceknbodpimiaaDoor

namespace Go.Proofs.YtnceknbodpimiaaDoor
open Go.RowKit
end Go.Proofs.YtnceknbodpimiaaDoor

namespace Go.Proofs.YtnceknbodpimiaaDoor
open Go.RowKit
instance : Inhabited Dt := ⟨.mk false ⟨0, 0, ⟨#[]⟩⟩ [] []⟩
theorem tri_cells {w : World} {x y z : Value} {T : TypeId} : ∀ j u, [x, y, z][j]? = some u → (w.alloc (.cells #[x, y, z] T)).cell? ((⟨w.heap.size, 0, none⟩ : Addr).add j) = some u := fun j u h => by
  rw [addr_plus, Nat.zero_add]
  refine cell_alloc_at ?_ rfl
  simpa using h
end Go.Proofs.YtnceknbodpimiaaDoor

namespace Go.Proofs.YtnceknbodpimiaaDoor
open Go.RowKit
end Go.Proofs.YtnceknbodpimiaaDoor

namespace Go.Proofs.YtnceknbodpimiaaDoor
open Go.RowKit
def btw (a n b : Int) : Bool := decide (a ≤ n ∧ n ≤ b)
def isLfB (kind mr md : Int) : Bool := btw 1 kind 5 && btw 0 mr 40 && btw 0 md 40
end Go.Proofs.YtnceknbodpimiaaDoor

namespace Go.Proofs.YtnceknbodpimiaaDoor
open Go.RowKit
/-- How many of these levels are one. -/
def cntE (md : Int) (xs : List Int) : Nat := (xs.filter (fun x => x == md)).length
end Go.Proofs.YtnceknbodpimiaaDoor

namespace Go.Proofs.YtnceknbodpimiaaDoor
open Go.RowKit
/-- A value that is none of the kind. -/
def badV (kind : Int) (v : Vl) : Bool := !(v.k == kind) || !(okV v.k v.k v.n v.s.size)
/-- Is the first one not 0? -/
def headB : List Int → Bool
  | [] => false
  | r :: _ => !(r == 0)
/-- Do the levels and the number of values fit? -/
def fitB (lid mr md cid : Int) (rs ds : List Int) (nv : Nat) : Bool :=
  if cid ≠ lid ∨ rs.length ≠ ds.length then false
  else if headB rs = true then false
  else if (rs.any fun x => !(btw 0 x mr)) = true ∨ (ds.any fun x => !(btw 0 x md)) = true then false
  else decide (nv = cntE md ds)
end Go.Proofs.YtnceknbodpimiaaDoor

namespace Go.Proofs.YtnceknbodpimiaaDoor
open Go.RowKit
/-- The steps from a node along numbers. -/
inductive StPath : Tr → List Int → Nat → Nat → List Stp → Prop where
  | nil (t : Tr) (df ls : Nat) : StPath t [] df ls []
  | cons (t : Tr) (id : Int) (rest : List Int) (df ls : Nat) (i : Nat) (hi : i < t.sub.length) (hid : t.sub[i].id = id) (first : ∀ j (h : j < i), t.sub[j].id ≠ id) (sts : List Stp) (more : StPath t.sub[i] rest (if t.sub[i].rep = 1 then df else df + 1) (if t.sub[i].rep = 3 then ls + 1 else ls) sts) :
      StPath t (id :: rest) df ls (⟨i, t.sub[i].rep, df, if t.sub[i].rep = 3 then ls + 1 else ls⟩ :: sts)
/-- A world in which one block is another one. -/
structure OneNew (bx : Nat) (o : Obj) (w1 w2 : World) : Prop where
  os : w2.os = w1.os
  tape : w2.tape = w1.tape
  output : w2.output = w1.output
  size : w2.heap.size = w1.heap.size
  new : w2.heap[bx]? = some o
  old : ∀ k, k ≠ bx → w2.heap[k]? = w1.heap[k]?
theorem OneNew.set {w1 w2 : World} {bx j : Nat} {cs : Array Value} {T : TypeId} (h : OneNew bx (.cells cs T (0, 0)) w1 w2) (y : Value) : OneNew bx (.cells (cs.setIfInBounds j y) T (0, 0)) w1 (w2.setCell ⟨bx, j, none⟩ y) :=
  ⟨h.os, h.tape, h.output, by rw [World.size_setCell]; exact h.size, row_setC h.new, fun k hk => (Below.heap_setCell _ ⟨bx, j, none⟩ _ _ hk).trans (h.old k hk)⟩
end Go.Proofs.YtnceknbodpimiaaDoor
