/-
  The reference's SameInts: whether two slices of ints hold the same numbers.
-/
import Derived.Test.YtnceknbodpimiaaDoorRows
import Derived.WalkKit
import Derived.WalkSpells
import Derived.WalkLawsBesides
import Derived.RegionTactic
import Derived.Below
namespace Go.Proofs.YtnceknbodpimiaaDoor
open Go.RowKit
/-- A slice value that holds these ints in a world (nil: none). -/
def IntsAt (w : World) (v : Value) (xs : List Int) : Prop :=
  (v = .slice none 0 0 ∧ xs = []) ∨ ∃ b o cap, v = .slice (some ⟨b, o, none⟩) xs.length cap ∧ ∀ j (h : j < xs.length), w.cell? ⟨b, o + j, none⟩ = some (.int .i64 xs[j])
theorem IntsAt.keep {w w' : World} {v : Value} {xs : List Int} (h : IntsAt w v xs) (hb : Below w.heap.size w w') : IntsAt w' v xs := by
  rcases h with h | ⟨b, o, cap, e, hc⟩
  · exact Or.inl h
  · exact Or.inr ⟨b, o, cap, e, fun j hj => (hb.cell (World.block_lt_of_cell? w _ (hc j hj))).trans (hc j hj)⟩
end Go.Proofs.YtnceknbodpimiaaDoor
