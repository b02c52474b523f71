/-
  bitrun.Runs: what its loop begins with, keeps and steps by (the walk itself is not here).
-/
import Derived.Test.YtjchkhdmjbojjaaDoorJShut
import Derived.Test.YtjchkhdmjbojjaaDoorJBTwiceMath
namespace Go.Proofs.YtjchkhdmjbojjaaDoor
open Go.RowKit
set_option linter.unusedVariables false
/-- 'open = i'. -/
theorem RI.setOpen {w0 : World} {Bl Bw Bb Bo : Nat} {a : Option Addr} {n c wd : Nat} {w : World} {bs : List UInt8} {op : Nat} (h : RI w0 Bl Bw Bb Bo a n c wd w bs op) (hne : Bl ≠ Bo ∧ Bw ≠ Bo ∧ Bb ≠ Bo) (op' : Nat) :
    RI w0 Bl Bw Bb Bo a n c wd (w.setCell ⟨Bo, 0, none⟩ (.int .i64 op')) bs op' := by
  obtain ⟨v, h1, h2⟩ := h.hb
  exact ⟨one_other h.hl hne.1 _, one_other h.hw hne.2.1 _, one_setCell h.ho, ⟨v, one_other h1 hne.2.2 _, ownsRow_setCell_other h2 (own_apart h2 h.ho (by decide)) _⟩, h.old.setCell h.new.2 _, h.new⟩
/-- What the loop begins with. -/
theorem RI.start (w w1 : World) (a : Option Addr) (n c wd : Nat) (hb : Below ((w.alloc (.cells #[.slice a n c] 49)).alloc (.cells #[.int .i64 wd] 3)).heap.size ((w.alloc (.cells #[.slice a n c] 49)).alloc (.cells #[.int .i64 wd] 3)) w1) :
    RI w w.heap.size (w.heap.size + 1) w1.heap.size (w1.heap.size + 1) a n c wd ((w1.alloc (.cells #[.slice none 0 0] 76)).alloc (.cells #[.int .i64 ((0 : Nat) : Int)] 3)) [] 0 := by
  have hsz : w.heap.size + 2 ≤ w1.heap.size := by have := hb.size; simpa using this
  have hb0 : Below w.heap.size w w1 := (((Below.refl _ w).alloc (Nat.le_refl _) _).alloc (by simp) _).trans (hb.mono (by simp; omega))
  have hw1 : Below w1.heap.size w1 ((w1.alloc (.cells #[.slice none 0 0] 76)).alloc (.cells #[.int .i64 ((0 : Nat) : Int)] 3)) := ((Below.refl _ w1).alloc (Nat.le_refl _) _).alloc (by simp) _
  have k1 : w1.heap[w.heap.size]? = some (.cells #[.slice a n c] 49 (0, 0)) := (hb.block _ (by simp; omega)).trans (heap_alloc2_old w _ _)
  have k2 : w1.heap[w.heap.size + 1]? = some (.cells #[.int .i64 wd] 3 (0, 0)) := (hb.block _ (by simp)).trans (heap_alloc2_new w _ _)
  refine ⟨below_block hw1 k1, below_block hw1 k2, heap_alloc2_new w1 _ _, ⟨.slice none 0 0, heap_alloc2_old w1 _ _, World.ownsRow_nil _ _ _ _⟩, hb0.trans (hw1.mono hb0.size), by omega, by omega⟩
/-- The open numbers, eight more (at the end fewer). -/
theorem pend_step (xs : List Int) (op i : Nat) (ho : op ≤ i) (hi : i ≤ xs.length) : (xs.take (min (i + 8) xs.length)).drop op = (xs.take i).drop op ++ (xs.drop i).take 8 := by
  apply List.ext_getElem?
  intro j
  by_cases hj : j < i - op
  · rw [List.getElem?_append_left (by simp; omega), List.getElem?_drop, List.getElem?_drop, List.getElem?_take, List.getElem?_take, if_pos (by omega), if_pos (by omega)]
  · rw [List.getElem?_append_right (by simp; omega), List.getElem?_drop, List.getElem?_take, List.getElem?_take, List.getElem?_drop]
    have e : (List.drop op (List.take i xs)).length = i - op := by simp; omega
    rw [e]
    by_cases h8 : j - (i - op) < 8
    · rw [if_pos h8]
      have e2 : i + (j - (i - op)) = op + j := by omega
      rw [e2]
      by_cases hl : op + j < min (i + 8) xs.length
      · rw [if_pos hl]
      · rw [if_neg hl, List.getElem?_eq_none (by omega)]
    · rw [if_neg h8, if_neg (by omega)]
end Go.Proofs.YtjchkhdmjbojjaaDoor
