/-
  DiskCopies, for whatever lists of acts.
-/
import Derived.Test.YtmpdkccmcnegkaaDoorIOpenAcs
import Derived.Test.YtmpdkccmcnegkaaDoorIAcZ
namespace Go.Proofs.YtmpdkccmcnegkaaDoor
open Go.RowKit
set_option maxRecDepth 100000 in
theorem diskCopies_top (q : Int) (a : Option Addr) (n c : Nat) (l : List Ac) (a2 : Option Addr) (n2 c2 : Nat) (l2 : List Ac) (W : World) (hq : (Lit.int .i64 q).wf = true) (e1 : l.length = n) (m1 : n ≤ maxLen) (l1 : LiesA W a l) (b1 : ∀ x ∈ l, Ac.In x) (e2 : l2.length = n2) (m2 : n2 ≤ maxLen) (h2 : LiesA W a2 l2) (b2 : ∀ x ∈ l2, Ac.In x) (hL : laidMetH Tryd.prog Rows.diskCopiesRow.laid W) :
    Calls Tryd.prog 4 #[.int .i64 q, .slice a n c, .slice a2 n2 c2] W fun e w' => e = .returned (.bool true) ∧ Below W.heap.size W w' := by
  obtain ⟨A, hE⟩ := errs_of hL
  subst e1 e2
  exact diskCopies_walk q (bounds_i64 hq) l a c l2 a2 c2 W A hE l1 b1 m1 h2 b2 m2
end Go.Proofs.YtmpdkccmcnegkaaDoor
