/-
  EncPlain, for whatever kind and slice of values.
-/
import Derived.Test.YtjpdghpkbpdmeaaDoorDWPlain
import Derived.Test.YtjpdghpkbpdmeaaDoorDOpenVals2
namespace Go.Proofs.YtjpdghpkbpdmeaaDoor
open Go.RowKit
theorem encPlain_top (kd : Int) (a : Option Addr) (n c : Nat) (vs : List Vl) (w : World) (e1 : vs.length = n) (m1 : n ≤ maxLen) (l1 : LiesV w a vs) (b1 : ∀ v ∈ vs, v.In) (hL : laidMetH Tryd.prog Rows.encPlainRow.laid w) :
    Calls Tryd.prog 3 #[.int .i64 kd, .slice a n c] w fun e w' => e = .returned (.bool true) ∧ Below w.heap.size w w' := by
  obtain ⟨A, hE⟩ := errs_of hL
  subst e1
  exact encPlain_walk kd a c vs w A hE m1 l1 b1
end Go.Proofs.YtjpdghpkbpdmeaaDoor
