/-
  A row of bytes of the call's own: kept, appended to, turned into a text.
-/
import Derived.Test.YteonbmaokphleaaGreatDoorHBase
import Derived.Lib.AppendStr
import Derived.OwnWalk
import Derived.OneCell
namespace Go.Proofs.YteonbmaokphleaaGreatDoor
open Go.RowKit
theorem ow_kept {w w' : World} {base e size n : Nat} {v : Value} {xs : List Value} (h : w.ownsRow base e size v n xs) (hb : Below w.heap.size w w') : w'.ownsRow base e size v n xs := by
 refine ⟨h.1, ?_⟩
 rcases h.2 with hn | ⟨g, cap, cur, rfl, hbg, hgg, rest⟩
 · exact .inl hn
 · exact .inr ⟨g, cap, cur, rfl, hbg, (hb.block g (Array.getElem?_eq_some_iff.1 hgg).1).trans hgg, rest⟩
theorem blk_alloc {w : World} {g : Nat} {o o' : Obj} (h : w.heap[g]? = some o) : (w.alloc o').heap[g]? = some o := ((Below.refl w.heap.size w).alloc (Nat.le_refl _) o').block g (lt_of_block h) |>.trans h
theorem blk_keep {w w' : World} {g : Nat} {o : Obj} (hb : Below w.heap.size w w') (h : w.heap[g]? = some o) : w'.heap[g]? = some o := (hb.block g (lt_of_block h)).trans h
end Go.Proofs.YteonbmaokphleaaGreatDoor
