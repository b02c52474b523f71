/-
  BitsRuns, for whatever slice of ints and width.
-/
import Derived.Test.YtgmglgepmdmmeaaDoorWRuns
import Derived.Test.YtgmglgepmdmmeaaDoorOpenInts
namespace Go.Proofs.YtgmglgepmdmmeaaDoor
open Go.RowKit
theorem bitsRuns_top (a : Option Addr) (n c : Nat) (xs : List Int) (k : Int) (w : World) (hxn : xs.length = n) (hn : n ≤ maxLen) (hl : Lies w a (i64s xs)) (hx : ∀ j (h : j < xs.length), -9223372036854775808 ≤ xs[j] ∧ xs[j] ≤ 9223372036854775807)
    (hL : laidMetH Tryd.prog Rows.bitsRunsRow.laid w) :
    Calls Tryd.prog 4 #[.slice a n c, .int .i64 k] w fun e w' => e = .returned (.bool true) ∧ Below w.heap.size w w' := by
  obtain ⟨A, hE⟩ := errs_of hL
  subst hxn
  by_cases h4 : 400 < xs.length
  · exact bitsRuns_none a _ c k w A hE hn h4
  · by_cases hk : 0 ≤ k ∧ k ≤ 32
    · obtain ⟨m, rfl⟩ : ∃ m : Nat, k = m := ⟨k.toNat, by omega⟩
      exact bitsRuns_right a c xs m w A hE (by omega) hl (by omega) hx
    · exact bitsRuns_bound a c xs k w A hE (by omega) hl hk
end Go.Proofs.YtgmglgepmdmmeaaDoor
