/-
  BitsTwice, for whatever slice of ints, width and text behind.
-/
import Derived.Test.YtgmglgepmdmmeaaDoorWTwiceB
import Derived.Test.YtgmglgepmdmmeaaDoorOpenInts
namespace Go.Proofs.YtgmglgepmdmmeaaDoor
open Go.RowKit
theorem Tryd.g3T : Tryd.prog.globalNamed "shredcol/api.ErrText" = some 1 := by kernel_rfl
theorem Tryd.g3Tt : (Tryd.prog.globals[1]?).map (·.type) = some 28 := by kernel_rfl
theorem Tryd.g3B : Tryd.prog.globalNamed "shredcol/api.ErrBound" = some 0 := by kernel_rfl
theorem Tryd.g3Bt : (Tryd.prog.globals[0]?).map (·.type) = some 28 := by kernel_rfl
theorem Tryd.g3S : Tryd.prog.globalNamed "shredcol/api.ErrShape" = some 2 := by kernel_rfl
theorem Tryd.g3St : (Tryd.prog.globals[2]?).map (·.type) = some 28 := by kernel_rfl
theorem bitsTwice_top (a : Option Addr) (n c : Nat) (xs : List Int) (k : Int) (s : ByteArray) (w : World) (hxn : xs.length = n) (hn : n ≤ maxLen) (hl : Lies w a (i64s xs)) (hx : ∀ j (h : j < xs.length), -9223372036854775808 ≤ xs[j] ∧ xs[j] ≤ 9223372036854775807)
    (hs : s.size ≤ maxLen) (hL : laidMetH Tryd.prog Rows.bitsTwiceRow.laid w) :
    Calls Tryd.prog 7 #[.slice a n c, .int .i64 k, .string s] w fun e w' => e = .returned (.bool true) ∧ Below w.heap.size w w' := by
  have hL' : laidMet Tryd.prog Rows.bitsTwiceRow.laid w := hL
  obtain ⟨p1, h1⟩ := sent_of Tryd.g3T Tryd.g3Tt _ (List.mem_cons_self ..) hL'
  obtain ⟨p2, h2⟩ := sent_of Tryd.g3B Tryd.g3Bt _ (List.mem_cons_of_mem _ (List.mem_cons_self ..)) hL'
  obtain ⟨p3, h3⟩ := sent_of Tryd.g3S Tryd.g3St _ (List.mem_cons_of_mem _ (List.mem_cons_of_mem _ (List.mem_singleton.2 rfl))) hL'
  subst hxn
  by_cases h4 : 400 < xs.length ∨ xs.length ≤ 400 ∧ 100 < s.size
  · exact bitsTwice_none a _ c k s w _ _ h3.var hn hs h4
  · by_cases hk : 0 ≤ k ∧ k ≤ 32
    · obtain ⟨m, rfl⟩ : ∃ m : Nat, k = m := ⟨k.toNat, by omega⟩
      exact bitsTwice_right a c xs m s w _ _ _ _ h3.var h1.var (by omega) (by omega) hl (by omega) hx
    · exact bitsTwice_bound a c xs k s w _ _ _ _ h3.var h2.var (by omega) (by omega) hl hk
end Go.Proofs.YtgmglgepmdmmeaaDoor
