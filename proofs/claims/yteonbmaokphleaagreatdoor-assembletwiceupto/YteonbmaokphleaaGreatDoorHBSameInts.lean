/-
  The reference's SameInts: whether two slices of ints hold the same numbers.
  enc.Less, enc.inTotalOrder and the reference's LessOf: what they answer.
-/
import Derived.Test.YteonbmaokphleaaGreatDoorRows
import Derived.WalkKit
import Derived.WalkSpells
import Derived.WalkLawsBesides
import Derived.RegionTactic
import Derived.Below
import Derived.Test.YteonbmaokphleaaGreatDoorHBVal
import Derived.Deep.QuietTactic
import Derived.BigQuiet
namespace Go.Proofs.YteonbmaokphleaaGreatDoor
open Go.RowKit
def IntsAt (w : World) (v : Value) (xs : List Int) : Prop :=
 (v = .slice none 0 0 ∧ xs = []) ∨ ∃ b o cap, v = .slice (some ⟨b, o, none⟩) xs.length cap ∧ ∀ j (h : j < xs.length), w.cell? ⟨b, o + j, none⟩ = some (.int .i64 xs[j])
theorem IntsAt.keep {w w' : World} {v : Value} {xs : List Int} (h : IntsAt w v xs) (hb : Below w.heap.size w w') : IntsAt w' v xs := by
 rcases h with h | ⟨b, o, cap, e, hc⟩
 · exact Or.inl h
 · exact Or.inr ⟨b, o, cap, e, fun j hj => (hb.cell (World.block_lt_of_cell? w _ (hc j hj))).trans (hc j hj)⟩
def tot (n : Int) : Int := if n < 0 then -9223372036854775809 - n else n
def vless (k1 n1 : Int) (s1 : ByteArray) (k2 n2 : Int) (s2 : ByteArray) : Bool :=
 if k1 = k2 then (if k1 = 4 then Op.bytesLess s1.toList s2.toList else if k1 = 5 then decide (tot n1 < tot n2) else decide (n1 < n2)) else decide (k1 < k2)
end Go.Proofs.YteonbmaokphleaaGreatDoor
