/-
  A row of bytes of the call's own: kept, appended to, turned into a text.
-/
import Derived.Test.YtmfijliladancaaGreatDoorXBase
import Derived.Lib.AppendStr
import Derived.OwnWalk
import Derived.OneCell
namespace Go.Proofs.YtmfijliladancaaGreatDoor
open Go.RowKit
theorem ow_kept {w w' : World} {base e size n : Nat} {v : Value} {xs : List Value} (h : w.ownsRow base e size v n xs) (hb : Below w.heap.size w w') : w'.ownsRow base e size v n xs := by
  refine ⟨h.1, ?_⟩
  rcases h.2 with hn | ⟨g, cap, cur, rfl, hbg, hgg, rest⟩
  · exact .inl hn
  · exact .inr ⟨g, cap, cur, rfl, hbg, (hb.block g (Array.getElem?_eq_some_iff.1 hgg).1).trans hgg, rest⟩
theorem ow_strCells' (s : ByteArray) : Lib.strCells s = cellsOf s.data.toList := by simp [Lib.strCells, cellsOf]
theorem ow_app (l m : List UInt8) : cellsOf (l ++ m) = cellsOf l ++ cellsOf m := by simp [cellsOf]
theorem ow_str {w : World} {B : Nat} {v : Value} {l : List UInt8} {s : ByteArray} (h : w.ownsRow B 5 1 v (l.length + s.size) (cellsOf l ++ Lib.strCells s)) : w.ownsRow B 5 1 v (l ++ s.data.toList).length (cellsOf (l ++ s.data.toList)) := by
  rw [ow_strCells', ← ow_app] at h
  have e : l.length + s.size = (l ++ s.data.toList).length := by rw [List.length_append, Array.length_toList]; rfl
  rw [e] at h
  exact h
set_option maxRecDepth 100000 in
/-- 'string(b)'. -/
theorem ow_conv {w : World} {base n : Nat} {v : Value} {l : List UInt8} (hl : l.length = n) (h : w.ownsRow base 5 1 v n (cellsOf l)) : (convert 48 9 v).run Tryz.prog w = .ok (.string ⟨l.toArray⟩) w := by
  rcases h.2 with ⟨rfl, hn⟩ | ⟨g, cap, cur, rfl, _, _⟩
  · obtain rfl : l = [] := List.eq_nil_of_length_eq_zero (by omega)
    rfl
  · subst hl
    exact run_convert_bytes_back w 48 9 5 ⟨g, 0, none⟩ cap l Tryz.underlying48 Tryz.underlying5 Tryz.underlying9 (fun j hj => h.cells rfl j _ (by simp [cellsOf, hj]))
/-- Behind an append to a row of the call's own: what was there stands. -/
theorem below_grown {B : Nat} {w wr w1 : World} {v : Value} {e n : Nat} {xs : List Value} (hb : Below B w wr) (hB : B ≤ w.heap.size) (hown : wr.ownsRow B e 1 v n xs) (hg : wr.grownBy w1 v.ownBlock) : Below B w w1 :=
  hb.grown hg (by have := hb.size; omega) (fun k hk => (hown.lt k hk).1)
theorem ow_apart {w : World} {B n g e : Nat} {v : Value} {xs : List Value} {cs : Array Value} {z : Nat × Nat} (hown : w.ownsRow B 5 1 v n xs) (h : w.heap[g]? = some (.cells cs e z)) (hne : e ≠ 5) : v.ownBlock ≠ some g := by
  rcases hown.2 with ⟨rfl, _⟩ | ⟨g1, _, cur1, rfl, _, hg1, _⟩
  · simp [Value.ownBlock]
  · intro he
    simp [Value.ownBlock] at he
    subst he
    rw [hg1] at h
    injection h with h
    injection h with _ h _
    exact hne h.symm
/-- A block that is no row of bytes stands where bytes are appended. -/
theorem ow_block {w w' : World} {B n g e : Nat} {v : Value} {xs : List Value} {cs : Array Value} {z : Nat × Nat} (hown : w.ownsRow B 5 1 v n xs) (h : w.heap[g]? = some (.cells cs e z)) (hne : e ≠ 5) (hg : w.grownBy w' v.ownBlock) : w'.heap[g]? = some (.cells cs e z) :=
  (hg.block g (lt_of_block h) (fun e => ow_apart hown h hne e.symm)).trans h
theorem blk_alloc {w : World} {g : Nat} {o o' : Obj} (h : w.heap[g]? = some o) : (w.alloc o').heap[g]? = some o := ((Below.refl w.heap.size w).alloc (Nat.le_refl _) o').block g (lt_of_block h) |>.trans h
theorem blk_keep {w w' : World} {g : Nat} {o : Obj} (hb : Below w.heap.size w w') (h : w.heap[g]? = some o) : w'.heap[g]? = some o := (hb.block g (lt_of_block h)).trans h
/-- The cells of a value that was boxed. -/
theorem row_three {w : World} {g e : Nat} {x y z : Value} (h : w.heap[g]? = some (.cells #[x, y, z] e (0, 0))) : w.cell? ⟨g, 0, none⟩ = some x ∧ w.cell? ⟨g, 1, none⟩ = some y ∧ w.cell? ⟨g, 2, none⟩ = some z :=
  ⟨by rw [cell_of_row _ g 0 _ e (0, 0) h]; rfl, by rw [cell_of_row _ g 1 _ e (0, 0) h]; rfl, by rw [cell_of_row _ g 2 _ e (0, 0) h]; rfl⟩
end Go.Proofs.YtmfijliladancaaGreatDoor
