/-
  The reference's Bare, Fine and BitsError, and the law's faulted: what they answer.
-/
import Derived.Test.YtkcobccmifkjcaaDoorDBPack
import Derived.Test.YtkcobccmifkjcaaDoorDBCode
import Derived.Laws.CopyOwn
namespace Go.Proofs.YtkcobccmifkjcaaDoor
open Go.RowKit
/-- A Fault of the reference: its cells. -/
abbrev rfl2 (c i : Int) : Array Value := #[.int .i64 c, .int .i64 i]
set_option maxRecDepth 100000 in
theorem bare_any (k : Int) (w : World) : Calls Tryd.prog 26 #[.int .i64 k] w fun e w' => e = .returned (.agg (rfl2 k (-1))) ∧ w' = w.alloc (.cells (rfl2 k (-1)) 31) := by
  go_enter Tryd.func26, Tryd.ntmps26
  go_wp2
  exact bodyPost_ret (v := .agg (rfl2 k (-1))) (results_cell_row Tryd.results26 _ _ w.heap.size 31 (rfl2 k (-1)) (0, 0) _ rfl (heap_alloc_new w _) Tryd.underlying31 rfl (by kernel_rfl)) rfl ⟨rfl, rfl⟩
set_option maxRecDepth 100000 in
theorem fine_any (w : World) : Calls Tryd.prog 27 #[] w fun e w' => e = .returned (.agg (rfl2 0 (-1))) ∧ w' = w.alloc (.cells (rfl2 0 (-1)) 31) := by
  go_enter Tryd.func27, Tryd.ntmps27
  go_wp2
  exact bodyPost_ret (v := .agg (rfl2 0 (-1))) (results_cell_row Tryd.results27 _ _ w.heap.size 31 (rfl2 0 (-1)) (0, 0) _ rfl (heap_alloc_new w _) Tryd.underlying31 rfl (by kernel_rfl)) rfl ⟨rfl, rfl⟩
theorem row_setCell {w : World} {g j : Nat} {cs : Array Value} {t : TypeId} (h : w.heap[g]? = some (.cells cs t (0, 0))) (v : Value) : (w.setCell ⟨g, j, none⟩ v).heap[g]? = some (.cells (cs.setIfInBounds j v) t (0, 0)) := by
  simp [World.setCell, Array.getElem?_modify, h]
/-- What is known of a Fault's block. -/
theorem row_two {w : World} {g : Nat} {x y : Int} {t : TypeId} (h : w.heap[g]? = some (.cells (rfl2 x y) t (0, 0))) :
    (w.cell? ⟨g, 0, none⟩ = some (.int .i64 x) ∧ w.cell? ⟨g, 1, none⟩ = some (.int .i64 y)) ∧ w.frozen? ⟨g, 0, none⟩ = false ∧ w.frozen? ⟨g, 1, none⟩ = false :=
  ⟨⟨cell_of_row w g 0 _ t _ h, cell_of_row w g 1 _ t _ h⟩, frozen_of_row w g 0 _ t h, frozen_of_row w g 1 _ t h⟩
theorem row_put {w : World} {g : Nat} {x y : Int} {t : TypeId} (h : w.heap[g]? = some (.cells (rfl2 x y) t (0, 0))) (x' y' : Int) :
    ((w.setCell ⟨g, 0, none⟩ (.int .i64 x')).setCell ⟨g, 1, none⟩ (.int .i64 y')).heap[g]? = some (.cells (rfl2 x' y') t (0, 0)) :=
  row_setCell (row_setCell h _) _
/-- What BitsError says. -/
def ErrSays (k : Nat) (xs : List Int) (e : Ending) : Prop :=
  (e = .returned (.agg (rfl2 0 (-1))) ∧ ∀ j (h : j < xs.length), Room k xs[j]) ∨
  (∃ i, ∃ hi : i < xs.length, e = .returned (.agg (rfl2 3 i)) ∧ (∀ j (h : j < xs.length), j < i → Room k xs[j]) ∧ ¬ Room k xs[i])
theorem shl_one {k : Nat} (hk : k ≤ 32) : IntKind.i64.wrap (2 ^ k) = 2 ^ k ∧ (2 : Int) ^ k ≤ 4294967296 := by
  have h := Nat.pow_le_pow_right (n := 2) (by omega) hk
  have e : ((2 ^ k : Nat) : Int) = (2 : Int) ^ k := by simp
  have h32 : (2 : Nat) ^ 32 = 4294967296 := by decide
  have hp := Nat.two_pow_pos k
  rw [← e, IntKind.wrap_i64]
  omega
set_option maxRecDepth 100000 in
set_option maxHeartbeats 800000 in
/-- faulted, of a fault round ErrShape, against the reference's. -/
theorem faulted_fault (w : World) (A : Nat → Addr) (h : Errs w A) (i p : Nat) (hi : i < 8) (at_ : Int) (h0 : w.cell? ⟨p, 0, none⟩ = some (.int .i64 at_)) (h1 : w.cell? ⟨p, 1, none⟩ = some (errV (A i))) (n : Int) (hn : n = (i : Int) + 1) :
    Calls Tryd.prog 13 #[.iface 87 (.pointer (some ⟨p, 0, none⟩)), .agg (rfl2 n at_)] w fun e w' => e = .returned (.bool true) ∧ Below w.heap.size w w' := by
  subst hn
  have hb0 : Below w.heap.size w (w.alloc (.cells (rfl2 ((i : Int) + 1) at_) 31)) := (Below.refl _ _).alloc (Nat.le_refl _) _
  have HA : Hid (Errs (w.alloc (.cells (rfl2 ((i : Int) + 1) at_) 31)) A) := h.keep hb0
  have H0 : Hid ((w.alloc (.cells (rfl2 ((i : Int) + 1) at_) 31)).cell? ⟨p, 0, none⟩ = some (.int .i64 at_)) := (hb0.cell (World.block_lt_of_cell? w _ h0)).trans h0
  have H1 : Hid ((w.alloc (.cells (rfl2 ((i : Int) + 1) at_) 31)).cell? ⟨p, 1, none⟩ = some (errV (A i))) := (hb0.cell (World.block_lt_of_cell? w _ h1)).trans h1
  clear h h0 h1
  go_enter Tryd.func13, Tryd.ntmps13
  go_wp2_with fail
  refine (code_fault _ A HA.out i p hi at_ H0.out H1.out).mono ?_
  rintro e w1 ⟨rfl, hb1⟩
  have hrow : w1.heap[w.heap.size]? = some (.cells (rfl2 ((i : Int) + 1) at_) 31 (0, 0)) := (hb1.block w.heap.size (by simp)).trans (heap_alloc_new w _)
  obtain ⟨⟨c0, c1⟩, _, _⟩ := row_two hrow
  have hne : ((i : Int) + 1 == 0) = false := by simp; omega
  clear hrow
  go_wp2_with fail
  go_ret
  exact ⟨rfl, hb0.trans (hb1.mono hb0.size)⟩
set_option maxRecDepth 100000 in
set_option maxHeartbeats 800000 in
/-- faulted, of a bare error, against the reference's. -/
theorem faulted_sent (w : World) (A : Nat → Addr) (h : Errs w A) (i : Nat) (hi : i < 8) (n : Int) (hn : n = (i : Int) + 1) :
    Calls Tryd.prog 13 #[errV (A i), .agg (rfl2 n (-1))] w fun e w' => e = .returned (.bool true) ∧ Below w.heap.size w w' := by
  subst hn
  have hb0 : Below w.heap.size w (w.alloc (.cells (rfl2 ((i : Int) + 1) (-1)) 31)) := (Below.refl _ _).alloc (Nat.le_refl _) _
  have HA : Hid (Errs (w.alloc (.cells (rfl2 ((i : Int) + 1) (-1)) 31)) A) := h.keep hb0
  clear h
  go_enter Tryd.func13, Tryd.ntmps13
  go_wp2_with fail
  refine (code_sent _ A HA.out i hi).mono ?_
  rintro e w1 ⟨rfl, hb1⟩
  have hrow : w1.heap[w.heap.size]? = some (.cells (rfl2 ((i : Int) + 1) (-1)) 31 (0, 0)) := (hb1.block w.heap.size (by simp)).trans (heap_alloc_new w _)
  obtain ⟨⟨c0, c1⟩, _, _⟩ := row_two hrow
  have hne : ((i : Int) + 1 == 0) = false := by simp; omega
  clear hrow
  go_wp2_with fail
  go_ret
  exact ⟨rfl, hb0.trans (hb1.mono hb0.size)⟩
end Go.Proofs.YtkcobccmifkjcaaDoor
