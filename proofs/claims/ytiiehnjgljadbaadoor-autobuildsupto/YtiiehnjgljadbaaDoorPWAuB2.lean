/-
  AutoBuilds, from what its row lists.
-/
import Derived.Test.YtiiehnjgljadbaaDoorPWAuB
import Derived.Test.YtiiehnjgljadbaaDoorPBCode
import Derived.Test.YtiiehnjgljadbaaDoorPOpenNode
import Derived.Test.YtiiehnjgljadbaaDoorRows
namespace Go.Proofs.YtiiehnjgljadbaaDoor
open Go.RowKit
theorem autoBuilds_top (t : Tr) (a : Option Addr) (c n : Nat) (P : Nat → Prop) (W : World) (hd : t.Dp n) (hn : n ≤ 1100000) (hs : t.Sm) (hl : LiesN W P a t.sub) (hL : laidMetH Tryd.prog Rows.autoBuildsUptoRow.laid W) :
    Calls Tryd.prog 3 #[nodeV t a c] W fun e w' => e = .returned (.bool true) ∧ Below W.heap.size W w' := by
  obtain ⟨A, hA⟩ := errs_of hL
  exact autoBuilds_walk t a c P n hd hn hs W hl A hA
end Go.Proofs.YtiiehnjgljadbaaDoor
