/-
  EncPrefix, for whatever slice of texts.
-/
import Derived.Test.YtjpdghpkbpdmeaaDoorEWPref
namespace Go.Proofs.YtjpdghpkbpdmeaaDoor
open Go.RowKit
theorem encPrefix_top (a : Option Addr) (n c : Nat) (ts : List ByteArray) (w : World) (e1 : ts.length = n) (m1 : n ≤ maxLen) (l1 : LiesS w a ts) (b1 : ∀ t ∈ ts, t.size ≤ maxLen) (hL : laidMetH Tryd.prog Rows.encPrefixRow.laid w) :
    Calls Tryd.prog 7 #[.slice a n c] w fun e w' => e = .returned (.bool true) ∧ Below w.heap.size w w' := by
  obtain ⟨A, hE⟩ := errs_of hL
  subst e1
  by_cases h2 : 200 < ts.length
  · exact encPrefix_none a _ c w A hE m1 h2
  · exact encPrefix_walk a c ts w A hE (by omega) l1 b1
end Go.Proofs.YtjpdghpkbpdmeaaDoor
