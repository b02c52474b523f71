/-
  plain.Code of nil and of each bare error: its number, and no place.
-/
import Derived.Test.YthlnjnoeaicjjaaDoorQErrAs
import Derived.Test.YthlnjnoeaicjjaaDoorQSent
namespace Go.Proofs.YthlnjnoeaicjjaaDoor
open Go.RowKit Go.Extern.Stop Go.Stop Go.Extern
/-- The number of each error's variable, and its text. -/
def errG : Nat → Nat
  | 0 => 0 | 1 => 2 | 2 => 3 | 3 => 1 | 4 => 4 | 5 => 5 | 6 => 6 | _ => 7
def errT : Nat → List UInt8
  | 0 => [115, 104, 114, 101, 100, 99, 111, 108, 58, 32, 116, 101, 120, 116]
  | 1 => [115, 104, 114, 101, 100, 99, 111, 108, 58, 32, 98, 111, 117, 110, 100]
  | 2 => [115, 104, 114, 101, 100, 99, 111, 108, 58, 32, 115, 104, 97, 112, 101]
  | 3 => [115, 104, 114, 101, 100, 99, 111, 108, 58, 32, 107, 105, 110, 100]
  | 4 => [115, 104, 114, 101, 100, 99, 111, 108, 58, 32, 110, 97, 109, 101]
  | 5 => [115, 104, 114, 101, 100, 99, 111, 108, 58, 32, 110, 111, 110, 101]
  | 6 => [115, 104, 114, 101, 100, 99, 111, 108, 58, 32, 115, 117, 109]
  | _ => [115, 104, 114, 101, 100, 99, 111, 108, 58, 32, 115, 112, 97, 99, 101]
/-- The error that lies at a. -/
abbrev errV (a : Addr) : Value := .iface 144 (.pointer (some a))
/-- What the listed variables hold in a world. -/
structure Errs (W : World) (A : Nat → Addr) : Prop where
  at_ : ∀ i, i < 8 → Sent W (errG i) (errT i) (A i)
  handle : W.cell? ⟨8, 0, none⟩ = some handleV
theorem Errs.keep {W W' : World} {A : Nat → Addr} (h : Errs W A) (hb : Below W.heap.size W W') : Errs W' A :=
  ⟨fun i hi => (h.at_ i hi).keep hb, (hb.cell (World.block_lt_of_cell? W _ h.handle)).trans h.handle⟩
def eightV (A : Nat → Addr) : Array Value := #[errV (A 0), errV (A 1), errV (A 2), errV (A 3), errV (A 4), errV (A 5), errV (A 6), errV (A 7)]
theorem eight_at (A : Nat → Addr) (k : Nat) (hk : k < 8) : (eightV A)[k]? = some (errV (A k)) := by
  have h : k = 0 ∨ k = 1 ∨ k = 2 ∨ k = 3 ∨ k = 4 ∨ k = 5 ∨ k = 6 ∨ k = 7 := by omega
  rcases h with rfl | rfl | rfl | rfl | rfl | rfl | rfl | rfl <;> rfl
/-- What the loop over the eight errors keeps. -/
structure Eight (w : World) (A : Nat → Addr) (g : Nat) (wr : World) : Prop where
  errs : Errs wr A
  cell : ∀ k, k < 8 → wr.cell? ⟨g, k, none⟩ = some (errV (A k))
  old : Below w.heap.size w wr
theorem Eight.start {w w1 : World} {A : Nat → Addr} (hb : Below w.heap.size w w1) (h : Errs w1 A) : Eight w A w1.heap.size (w1.alloc (.cells (eightV A) 31)) := by
  have hb3 : Below w1.heap.size w1 (w1.alloc (.cells (eightV A) 31)) := (Below.refl _ _).alloc (Nat.le_refl _) _
  refine ⟨h.keep hb3, fun k hk => ?_, hb.trans (hb3.mono hb.size)⟩
  rw [cell_of_row _ w1.heap.size k (eightV A) 31 (0, 0) (heap_alloc_new w1 _)]
  exact eight_at A k hk
end Go.Proofs.YthlnjnoeaicjjaaDoor
