/-
  A box of four cells.
  What a call keeps but for one block and what is above.
-/
import Derived.Test.YteonbmaokphleaaGreatDoorHOwn
import Derived.RegionTactic
import Derived.Deep.QuietTactic
import Derived.BigQuiet
import Derived.Deep.RegionWith
namespace Go.Proofs.YteonbmaokphleaaGreatDoor
open Go.RowKit
theorem row_four {w : World} {g e : Nat} {x0 x1 x2 x3 : Value} (h : w.heap[g]? = some (.cells #[x0, x1, x2, x3] e (0, 0))) : w.cell? ⟨g, 0, none⟩ = some x0 ∧ w.cell? ⟨g, 1, none⟩ = some x1 ∧ w.cell? ⟨g, 2, none⟩ = some x2 ∧ w.cell? ⟨g, 3, none⟩ = some x3 :=
 ⟨cell_of_row w g 0 _ e _ h, cell_of_row w g 1 _ e _ h, cell_of_row w g 2 _ e _ h, cell_of_row w g 3 _ e _ h⟩
structure DFr (g N : Nat) (W w' : World) : Prop where
 os : w'.os = W.os
 tape : w'.tape = W.tape
 output : w'.output = W.output
 size : W.heap.size ≤ w'.heap.size
 keep : ∀ k, k < W.heap.size → k ≠ g → (N ≤ k → ∀ cs e z, W.heap[k]? = some (.cells cs e z) → e ≠ 3 ∧ e ≠ 54) → w'.heap[k]? = W.heap[k]?
theorem DFr.refl (g N : Nat) (W : World) : DFr g N W W := ⟨rfl, rfl, rfl, Nat.le_refl _, fun _ _ _ _ => rfl⟩
theorem DFr.trans {g N : Nat} {W w1 w2 : World} (h : DFr g N W w1) (h2 : DFr g N w1 w2) : DFr g N W w2 :=
 ⟨h2.os.trans h.os, h2.tape.trans h.tape, h2.output.trans h.output, Nat.le_trans h.size h2.size, fun k hk hne ht => by
  have e := h.keep k hk hne ht
  rw [h2.keep k (Nat.lt_of_lt_of_le hk h.size) hne (fun hN cs e2 z hc => ht hN cs e2 z (e ▸ hc)), e]⟩
theorem DFr.of_below {g N : Nat} {W w' : World} (hb : Below W.heap.size W w') : DFr g N W w' := ⟨hb.os, hb.tape, hb.output, hb.size, fun k hk _ _ => hb.block k hk⟩
theorem DFr.alloc (g N : Nat) (W : World) (o : Obj) : DFr g N W (W.alloc o) := .of_below ((Below.refl _ _).alloc (Nat.le_refl _) _)
theorem DFr.drew (g N : Nat) (W : World) : DFr g N W W.drew := .of_below (Below.refl _ _).drew
theorem DFr.below {g N B : Nat} {W w' : World} (h : DFr g N W w') (hB : B ≤ W.heap.size) (hg : B ≤ g) (hN : B ≤ N) : Below B W w' := ⟨h.os, h.tape, h.output, h.size, fun k hk => h.keep k (by omega) (by omega) (fun h2 => by omega)⟩
theorem DFr.box {g N k : Nat} {W w' : World} {cs : Array Value} {e : TypeId} {z : Nat × Nat} (h : DFr g N W w') (hk : W.heap[k]? = some (.cells cs e z)) (hg : k ≠ g) (he : e ≠ 3 ∧ e ≠ 54) : w'.heap[k]? = some (.cells cs e z) :=
 (h.keep k (lt_of_block hk) hg (fun _ cs' e' z' hc => by rw [hc] at hk; injection hk with hk; injection hk with _ hk _; subst hk; exact he)).trans hk
end Go.Proofs.YteonbmaokphleaaGreatDoor
